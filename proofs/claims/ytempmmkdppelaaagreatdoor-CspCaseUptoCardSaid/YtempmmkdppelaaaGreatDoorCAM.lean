/-
  Letters of either case, for CspCase: mathematics.
-/
import Derived.Test.YtempmmkdppelaaaGreatDoorU3M
namespace Go.Proofs.YtempmmkdppelaaaGreatDoor
open Go.RowKit
theorem let_iff (b : UInt8) : letB b = true ↔ ((97 ≤ b.toNat ∧ b.toNat ≤ 122) ∨ (65 ≤ b.toNat ∧ b.toNat ≤ 90)) := by
  unfold letB; simp only [Bool.or_eq_true, Bool.and_eq_true, decide_eq_true_iff]
theorem upp_cases (b : UInt8) : M.upp b = b ∨ (97 ≤ b.toNat ∧ b.toNat ≤ 122 ∧ (M.upp b).toNat = b.toNat - 32) := by
  by_cases h : 97 ≤ b.toNat ∧ b.toNat ≤ 122
  · exact .inr ⟨h.1, h.2, by rw [upp_nat, if_pos h]⟩
  · exact .inl (upp_no b h)
theorem upp_iff {c : UInt8} (hc : letB c = false) (b : UInt8) : M.upp b = c ↔ b = c := by
  rcases upp_cases b with h | ⟨h1, h2, h3⟩
  · rw [h]
  · constructor
    · intro e; subst e
      rw [(let_iff _).2 (.inr (by omega))] at hc; cases hc
    · intro e; subst e
      rw [(let_iff _).2 (.inl ⟨h1, h2⟩)] at hc; cases hc
theorem upp_beq {c : UInt8} (hc : letB c = false) (b : UInt8) : (M.upp b == c) = (b == c) := by
  rw [Bool.eq_iff_iff, beq_iff_eq, beq_iff_eq]; exact upp_iff hc b
theorem beq_upp {c : UInt8} (hc : letB c = false) (b : UInt8) : (c == M.upp b) = (c == b) := by
  rw [Bool.eq_iff_iff, beq_iff_eq, beq_iff_eq, eq_comm, upp_iff hc b, eq_comm]
theorem let_upp (b : UInt8) : letB (M.upp b) = letB b := by
  rcases upp_cases b with h | ⟨h1, h2, h3⟩
  · rw [h]
  · rw [(let_iff _).2 (.inr (by omega)), (let_iff _).2 (.inl ⟨h1, h2⟩)]
theorem dig_upp (b : UInt8) : digB (M.upp b) = digB b := by
  rcases upp_cases b with h | ⟨h1, h2, h3⟩
  · rw [h]
  · unfold digB
    rw [decide_eq_false (p := (M.upp b).toNat ≤ 57) (by omega), decide_eq_false (p := b.toNat ≤ 57) (by omega)]; simp
theorem low_upp (b : UInt8) : M.low (M.upp b) = M.low b := by
  rcases upp_cases b with h | ⟨h1, h2, h3⟩
  · rw [h]
  · apply UInt8.toNat_inj.1
    rw [low_nat, low_nat, if_pos (by omega), if_neg (by omega)]; omega
theorem dig_same {b : UInt8} (h : digB b = true) : M.upp b = b := by
  rcases upp_cases b with h' | ⟨h1, h2, h3⟩
  · exact h'
  · unfold digB at h
    rw [Bool.and_eq_true] at h
    have := of_decide_eq_true h.2; omega
theorem plain_upp (m : List UInt8) (b : UInt8) : plainB m (M.upp b) = plainB m b := by
  rcases upp_cases b with h | ⟨h1, h2, h3⟩
  · rw [h]
  · unfold plainB
    rw [(let_iff b).2 (.inl ⟨h1, h2⟩), let_upp, (let_iff b).2 (.inl ⟨h1, h2⟩)]; rfl
abbrev up (s : List UInt8) : List UInt8 := s.map M.upp
theorem made_upp {f : UInt8 → Bool} (hf : ∀ b, f (M.upp b) = f b) (s : List UInt8) : madeB f (up s) = madeB f s := by
  unfold madeB up
  rw [List.all_map, List.isEmpty_map]
  congr 2
  funext b; exact hf b
/-- no letter is in it -/
def Nl (m : List UInt8) : Prop := ∀ c ∈ m, letB c = false
theorem contains_upp {m : List UInt8} (hm : Nl m) (b : UInt8) : m.contains (M.upp b) = m.contains b := by
  induction m with
  | nil => rfl
  | cons c m ih =>
    rw [List.contains_cons, List.contains_cons, ih fun x hx => hm x (by simp [hx]), upp_beq (hm c (by simp))]
theorem prefix_upp : ∀ {p : List UInt8} (_ : Nl p) (s : List UInt8), p.isPrefixOf (up s) = p.isPrefixOf s
  | [], _, s => by simp
  | c :: p, _, [] => rfl
  | c :: p, h, b :: s => by
    show (c == M.upp b && p.isPrefixOf (up s)) = (c == b && p.isPrefixOf s)
    rw [beq_upp (h c (by simp)), prefix_upp (fun x hx => h x (by simp [hx])) s]
theorem hasPrefix_upp {p : List UInt8} (h : Nl p) (s : List UInt8) : Lib.hasPrefix (up s) p = Lib.hasPrefix s p := prefix_upp h s
theorem hasSuffix_upp {p : List UInt8} (h : Nl p) (s : List UInt8) : Lib.hasSuffix (up s) p = Lib.hasSuffix s p := by
  unfold Lib.hasSuffix List.isSuffixOf up
  rw [← List.map_reverse]
  exact prefix_upp (fun x hx => h x (by simpa using hx)) _
theorem trimPrefix_upp {p : List UInt8} (h : Nl p) (s : List UInt8) : Lib.trimPrefix (up s) p = up (Lib.trimPrefix s p) := by
  unfold Lib.trimPrefix
  rw [hasPrefix_upp h]
  split
  · exact (List.map_drop ..).symm
  · rfl
theorem trimSuffix_upp {p : List UInt8} (h : Nl p) (s : List UInt8) : Lib.trimSuffix (up s) p = up (Lib.trimSuffix s p) := by
  unfold Lib.trimSuffix
  rw [hasSuffix_upp h, List.length_map]
  split
  · exact (List.map_take ..).symm
  · rfl
theorem dropWhile_upp {f : UInt8 → Bool} (hf : ∀ b, f (M.upp b) = f b) : ∀ s : List UInt8, (up s).dropWhile f = up (s.dropWhile f)
  | [] => rfl
  | b :: s => by
    show (M.upp b :: up s).dropWhile f = _
    rw [List.dropWhile_cons, List.dropWhile_cons, hf b]
    split
    · exact dropWhile_upp hf s
    · rfl
theorem takeWhile_upp {f : UInt8 → Bool} (hf : ∀ b, f (M.upp b) = f b) : ∀ s : List UInt8, (up s).takeWhile f = up (s.takeWhile f)
  | [] => rfl
  | b :: s => by
    show (M.upp b :: up s).takeWhile f = _
    rw [List.takeWhile_cons, List.takeWhile_cons, hf b]
    split
    · rw [takeWhile_upp hf s]; rfl
    · rfl
theorem trimRight_upp {c : UInt8} (hc : letB c = false) (s : List UInt8) : Lib.trimRightB (up s) c = up (Lib.trimRightB s c) := by
  unfold Lib.trimRightB
  rw [show (up s).reverse = up s.reverse from (List.map_reverse ..).symm, dropWhile_upp (f := (· == c)) (fun b => upp_beq hc b)]
  exact (List.map_reverse ..).symm
theorem code_upp (s : List UInt8) : codeB (up s) = codeB s := by
  unfold codeB
  rw [trimRight_upp (by decide), made_upp (plain_upp _), List.length_map, List.length_map]
theorem cutP_upp {m : List UInt8} (hm : Nl m) (s : List UInt8) : cutP (up s) m = (up (cutP s m).1, up (cutP s m).2) := by
  unfold cutP
  rw [takeWhile_upp (fun b => by rw [contains_upp hm]), dropWhile_upp (fun b => by rw [contains_upp hm])]
theorem indexAny_upp {m : List UInt8} (hm : Nl m) : ∀ s : List UInt8, Lib.indexAny (up s) m = Lib.indexAny s m
  | [] => rfl
  | b :: s => by
    show Lib.indexAny (M.upp b :: up s) m = _
    unfold Lib.indexAny
    rw [contains_upp hm, indexAny_upp hm s]
theorem containsAny_upp {m : List UInt8} (hm : Nl m) (s : List UInt8) : Lib.containsAny (up s) m = Lib.containsAny s m := by
  unfold Lib.containsAny; rw [indexAny_upp hm]
theorem index_upp {p : List UInt8} (hp : Nl p) : ∀ s : List UInt8, Lib.index (up s) p = Lib.index s p
  | [] => rfl
  | b :: s => by
    show Lib.index (M.upp b :: up s) p = _
    unfold Lib.index
    rw [index_upp hp s]
    have : p.isPrefixOf (M.upp b :: up s) = p.isPrefixOf (b :: s) := prefix_upp hp (b :: s)
    rw [this]
theorem cut_upp {p : List UInt8} (hp : Nl p) (s : List UInt8) : Lib.cut (up s) p = (up (Lib.cut s p).1, up (Lib.cut s p).2.1, (Lib.cut s p).2.2) := by
  unfold Lib.cut
  rw [index_upp hp]
  split
  · simp only [up, List.map_take, List.map_drop]
  · rfl
theorem parts_upp {c : UInt8} (hc : letB c = false) : ∀ s : List UInt8, Ks.partsAt c (up s) = (Ks.partsAt c s).map up
  | [] => rfl
  | b :: s => by
    show Ks.partsAt c (M.upp b :: up s) = _
    rw [Ks.partsAt, Ks.partsAt, parts_upp hc s]
    by_cases h : b = c
    · rw [if_pos h, if_pos ((upp_iff hc b).2 h)]; rfl
    · rw [if_neg h, if_neg (fun e => h ((upp_iff hc b).1 e))]
      cases hp : Ks.partsAt c s with
      | nil => exact absurd hp (Ks.partsAt_ne c s)
      | cons x xs => rfl
theorem lowS_upp (l : List UInt8) : lowS ⟨(up l).toArray⟩ = lowS ⟨l.toArray⟩ := by
  unfold lowS
  congr 1
  simp only [up, List.map_map]
  congr 1
  apply List.map_congr_left
  intro b _; exact low_upp b
theorem same_upp (a b : List UInt8) : sameB (up a) b = sameB a b := by
  unfold sameB
  have : (up a).map M.low = a.map M.low := by
    simp only [up, List.map_map]
    apply List.map_congr_left
    intro b _; exact low_upp b
  rw [this]
theorem marked_upp (s beg : List UInt8) : markedP (up s) beg = (markedP s beg).map up := by
  have h39 : Nl [39] := by unfold Nl; decide
  unfold markedP
  simp only [hasPrefix_upp h39, trimPrefix_upp h39, hasSuffix_upp h39, trimSuffix_upp h39]
  rw [show (up (Lib.trimSuffix (Lib.trimPrefix s [39]) [39])).take beg.length = up ((Lib.trimSuffix (Lib.trimPrefix s [39]) [39]).take beg.length) from (List.map_take ..).symm, same_upp, List.length_map]
  split
  · rw [Option.map_some]; congr 1; exact (List.map_drop ..).symm
  · rfl
theorem keyword_upp (s : List UInt8) : keywordP (up s) = keywordP s := by
  unfold keywordP
  rw [marked_upp]
  have : ((markedP s []).map up).getD [] = up ((markedP s []).getD []) := by cases markedP s [] <;> rfl
  rw [this, lowS_upp]
theorem nonce_upp (s : List UInt8) : (nonceP (up s)).isSome = (nonceP s).isSome := by
  unfold nonceP
  rw [marked_upp]
  cases markedP s nonceM.data.toList with
  | none => rfl
  | some t => simp only [Option.map_some, code_upp]; split <;> rfl
theorem hashAt_upp (s : List UInt8) (n : ByteArray) : (hashAt (up s) n).isSome = (hashAt s n).isSome := by
  unfold hashAt
  rw [marked_upp]
  cases markedP s (n ++ ⟨#[45]⟩ : ByteArray).data.toList with
  | none => rfl
  | some t => simp only [Option.map_some, code_upp]; split <;> rfl
theorem findSome_isSome {α β : Type} {f g : α → Option β} (h : ∀ a, (f a).isSome = (g a).isSome) : ∀ l : List α, (l.findSome? f).isSome = (l.findSome? g).isSome
  | [] => rfl
  | a :: l => by
    rw [List.findSome?_cons, List.findSome?_cons]
    have := h a
    cases hf : f a <;> cases hg : g a <;> rw [hf, hg] at this
    · exact findSome_isSome h l
    · cases this
    · cases this
    · rfl
theorem hash_upp (s : List UInt8) : (hashP (up s)).isSome = (hashP s).isSome := findSome_isSome (hashAt_upp s) _
theorem schemeB_upp (s : List UInt8) : schemeB (up s) = schemeB s := by
  unfold schemeB
  rw [made_upp (plain_upp _)]
  cases s with
  | nil => rfl
  | cons b s => simp only [up, List.map_cons, let_upp]
theorem scheme_upp (s : List UInt8) : schemeP (up s) = schemeP s := by
  have h : Nl [58] := by unfold Nl; decide
  unfold schemeP
  rw [hasSuffix_upp h, trimSuffix_upp h, schemeB_upp, lowS_upp]
theorem nameOK_upp (s : List UInt8) : nameOK (up s) = nameOK s := by
  unfold nameOK
  rw [trimSuffix_upp (by unfold Nl; decide), parts_upp (by decide), List.all_map]
  congr 1
  funext t; exact made_upp (plain_upp _) t
theorem one_upp {c : UInt8} (hc : letB c = false) (s : List UInt8) : up s = [c] ↔ s = [c] := by
  match s with
  | [] => simp
  | [b] => simp only [up, List.map_cons, List.map_nil, List.cons.injEq, and_true]; exact upp_iff hc b
  | a :: b :: s => simp
/-- but for its path -/
def noPath (x : Src) : Src := { x with path := ⟨#[]⟩ }
theorem name_upp (x : Src) (p q : ByteArray) (s : List UInt8) : noPath (nameR { x with path := p } (up s)).1 = noPath (nameR { x with path := q } s).1 ∧ (nameR { x with path := p } (up s)).2 = (nameR { x with path := q } s).2 := by
  have h : Nl [42, 46] := by unfold Nl; decide
  unfold nameR
  by_cases h1 : s = [42]
  · rw [if_pos h1, if_pos ((one_upp (by decide) s).2 h1)]; exact ⟨rfl, rfl⟩
  · rw [if_neg h1, if_neg (fun e => h1 ((one_upp (by decide) s).1 e)), hasPrefix_upp h, trimPrefix_upp h, nameOK_upp, lowS_upp]; exact ⟨rfl, rfl⟩
theorem dec_upp (s : List UInt8) (h : madeB digB s = true) : up s = s := by
  unfold madeB at h
  rw [Bool.and_eq_true, List.all_eq_true] at h
  unfold up
  conv => rhs; rw [← List.map_id s]
  exact List.map_congr_left fun b hb => dig_same (h.1 b hb)
theorem port_upp {x y : Src} (hxy : noPath x = noPath y) (s : List UInt8) : noPath (portR x (up s)).1 = noPath (portR y s).1 ∧ (portR x (up s)).2 = (portR y s).2 := by
  have h : Nl [58] := by unfold Nl; decide
  obtain ⟨k1, t1, s1, w1, p1, h1, a1, q1⟩ := x
  obtain ⟨k2, t2, s2, w2, p2, h2, a2, q2⟩ := y
  simp only [noPath, Src.mk.injEq, and_true] at hxy
  obtain ⟨rfl, rfl, rfl, rfl, rfl, rfl, rfl⟩ := hxy
  unfold portR
  by_cases h0 : s = []
  · rw [if_pos h0, if_pos (by rw [h0]; rfl)]; exact ⟨rfl, rfl⟩
  · rw [if_neg h0, if_neg (by simpa using h0), trimPrefix_upp h]
    by_cases h1 : Lib.trimPrefix s [58] = [42]
    · rw [if_pos h1, if_pos ((one_upp (by decide) _).2 h1)]; exact ⟨rfl, rfl⟩
    · rw [if_neg h1, if_neg (fun e => h1 ((one_upp (by decide) _).1 e)), made_upp dig_upp, List.length_map]
      by_cases h2 : (madeB digB (Lib.trimPrefix s [58]) && decide ((Lib.trimPrefix s [58]).length ≤ 5)) = true
      · rw [if_pos h2, if_pos h2, dec_upp _ (by rw [Bool.and_eq_true] at h2; exact h2.1)]; exact ⟨rfl, rfl⟩
      · rw [if_neg h2, if_neg h2]; exact ⟨rfl, rfl⟩
theorem hostX_upp (s : List UInt8) : hostX (up s) = ((hostX s).1, up (hostX s).2) := by
  unfold hostX
  rw [cut_upp (by unfold Nl; decide)]
  simp only [schemeB_upp, lowS_upp]
  split <;> rfl
theorem host_upp (s : List UInt8) : (hostP (up s)).map noPath = (hostP s).map noPath := by
  have h1 : Nl [58, 47] := by unfold Nl; decide
  have h2 : Nl [47] := by unfold Nl; decide
  have h3 : Nl [59, 44, 63, 35] := by unfold Nl; decide
  have key : noPath (hostR (up s)).1 = noPath (hostR s).1 ∧ (hostR (up s)).2 = (hostR s).2 := by
    unfold hostR
    rw [hostX_upp]
    generalize (hostX s).1 = x
    generalize (hostX s).2 = t
    unfold restR
    simp only [cutP_upp h1, cutP_upp h2, containsAny_upp h3]
    obtain ⟨n1, n2⟩ := name_upp x ⟨(up (cutP (cutP t [58, 47]).2 [47]).2).toArray⟩ ⟨(cutP (cutP t [58, 47]).2 [47]).2.toArray⟩ (cutP t [58, 47]).1
    rw [n2]
    split
    · obtain ⟨p1, p2⟩ := port_upp n1 (cutP (cutP t [58, 47]).2 [47]).1
      exact ⟨p1, by rw [p2]⟩
    · exact ⟨n1, rfl⟩
  unfold hostP
  rw [key.2]
  split
  · rw [Option.map_some, Option.map_some, key.1]
  · rfl
/-- two readings that differ in their letters' case alone -/
def Like : Option Src → Option Src → Prop
  | none, none => True
  | some a, some b => a.kind = b.kind ∧ a.kind ≤ 5 ∧ (a.kind ≠ 2 → a.kind ≠ 3 → noPath a = noPath b)
  | _, _ => False
theorem source_upp (s : List UInt8) : Like (sourceD s) (sourceD (up s)) := by
  unfold sourceD
  simp only [List.findSome?_cons, List.findSome?_nil, rdK, rdAt]
  have k0 := keyword_upp s
  have k1 := nonce_upp s
  have k2 := hash_upp s
  have k3 := scheme_upp s
  have k4 := host_upp s
  rw [k0, k3]
  generalize keywordP s = a0 at *
  generalize nonceP s = a1 at *
  generalize nonceP (up s) = b1 at *
  generalize hashP s = a2 at *
  generalize hashP (up s) = b2 at *
  generalize schemeP s = a3 at *
  generalize hostP s = a4 at *
  generalize hostP (up s) = b4 at *
  clear k0 k3
  cases a0 with
  | some x => exact ⟨rfl, by simp, fun _ _ => rfl⟩
  | none =>
    cases a1 with
    | some x =>
      cases b1 with
      | none => cases k1
      | some y => exact ⟨rfl, by simp, fun h => absurd rfl h⟩
    | none =>
      cases b1 with
      | some y => cases k1
      | none =>
        cases a2 with
        | some x =>
          cases b2 with
          | none => cases k2
          | some y => exact ⟨rfl, by simp, fun _ h => absurd rfl h⟩
        | none =>
          cases b2 with
          | some y => cases k2
          | none =>
            cases a3 with
            | some x => exact ⟨rfl, by simp, fun _ _ => rfl⟩
            | none =>
              cases a4 with
              | none =>
                cases b4 with
                | none => trivial
                | some y => cases k4
              | some x =>
                cases b4 with
                | none => cases k4
                | some y =>
                  refine ⟨rfl, by simp, fun _ _ => ?_⟩
                  have h : noPath y = noPath x := Option.some.inj k4
                  simp only [noPath, Src.mk.injEq, and_true] at h ⊢
                  obtain ⟨-, h2, h3, h4, h5, h6, h7⟩ := h
                  exact ⟨trivial, h2.symm, h3.symm, h4.symm, h5.symm, h6.symm, h7.symm⟩
end Go.Proofs.YtempmmkdppelaaaGreatDoor
