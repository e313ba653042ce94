/-
  Plain mathematics of what Encode and Decode answer: unlike runes have unlike texts; what is read, written again, is read as the same. No conditions.
-/
import Derived.Test.YthdodmbopchfdaaQG
namespace Go.Proofs.Ythdodmbopchfdaa
open Go.RowKit P
theorem split_last {x : Int} {a c a' c' : List Int} (h : a ++ x :: c = a' ++ x :: c') (h1 : x ∉ c) (h2 : x ∉ c') : a = a' ∧ c = c' := by
  rw [List.append_eq_append_iff] at h
  rcases h with ⟨z, hz, hc⟩ | ⟨z, hz, hc⟩
  · cases z with
    | nil =>
      simp only [List.append_nil, List.nil_append, List.cons.injEq, true_and] at hz hc
      exact ⟨hz.symm, hc⟩
    | cons y z =>
      exfalso
      simp only [List.cons_append, List.cons.injEq] at hc
      exact h1 (by rw [hc.2]; simp)
  · cases z with
    | nil =>
      simp only [List.append_nil, List.nil_append, List.cons.injEq, true_and] at hz hc
      exact ⟨hz, hc.symm⟩
    | cons y z =>
      exfalso
      simp only [List.cons_append, List.cons.injEq] at hc
      exact h2 (by rw [hc.2]; simp)
theorem u8_inj : ∀ {l l' : List Int}, (∀ x ∈ l, 0 ≤ x ∧ x < 256) → (∀ x ∈ l', 0 ≤ x ∧ x < 256) → l.map u8 = l'.map u8 → l = l'
  | [], [], _, _, _ => rfl
  | [], _ :: _, _, _, h => by simp at h
  | _ :: _, [], _, _, h => by simp at h
  | x :: l, y :: l', h1, h2, h => by
    simp only [List.map_cons, List.cons.injEq] at h
    have e : x = y := by
      have a1 := h1 x (by simp)
      have a2 := h2 y (by simp)
      have := congrArg UInt8.toNat h.1
      unfold u8 at this
      rw [U.u8_nat (by omega), U.u8_nat (by omega)] at this
      omega
    rw [e, u8_inj (fun x hx => h1 x (by simp [hx])) (fun x hx => h2 x (by simp [hx])) h.2]
theorem digZ_inj : ∀ {l l' : List Int}, (∀ x ∈ l, 0 ≤ x ∧ x ≤ 35) → (∀ x ∈ l', 0 ≤ x ∧ x ≤ 35) → l.map digZ = l'.map digZ → l = l'
  | [], [], _, _, _ => rfl
  | [], _ :: _, _, _, h => by simp at h
  | _ :: _, [], _, _, h => by simp at h
  | x :: l, y :: l', h1, h2, h => by
    simp only [List.map_cons, List.cons.injEq] at h
    have e : x = y := by
      have a1 := h1 x (by simp)
      have a2 := h2 y (by simp)
      have := h.1
      unfold digZ at this
      split at this <;> split at this <;> omega
    rw [e, digZ_inj (fun x hx => h1 x (by simp [hx])) (fun x hx => h2 x (by simp [hx])) h.2]
theorem no_hyphen {o : List Int} (h : ∀ x ∈ o, 0 ≤ x ∧ x ≤ 35) : (45 : Int) ∉ o.map digZ := by
  intro hm
  obtain ⟨x, hx, e⟩ := List.mem_map.1 hm
  have := h x hx
  have := digZ_bd this.1 this.2
  omega
/-- what stands in a text that Encode gives -/
theorem encS_ok {l r : List Int} (h : encS l = (r, 0)) : l.length ≤ 4096 ∧ l.map U.rep = l ∧ ∃ o ds nd id B, r = baseOf l ++ o.map digZ ∧ Run (lt 128 l) ds o nd id B l ∧ (∀ x ∈ r, 0 ≤ x ∧ x < 256) ∧ ∀ x ∈ o, 0 ≤ x ∧ x ≤ 35 := by
  unfold encS at h
  by_cases h1 : 4096 < l.length
  · rw [if_pos h1] at h; simp at h
  · rw [if_neg h1] at h
    by_cases h2 : l.map U.rep = l
    · rw [if_neg (by simpa using h2)] at h
      have hw := may_bd h2
      cases he : enc (lt 128 l).length l l.length 128 ⟨[], 0, 72, (lt 128 l).length⟩ with
      | none => rw [he] at h; unfold encM at h; simp at h
      | some o =>
        rw [he] at h
        unfold encM at h
        simp only [Prod.mk.injEq, and_true] at h
        obtain ⟨ds, nd, id, B, hR⟩ := enc_run (fun r hr => (hw r hr).2) l.length 128 _ o (hd_start l) (by dsimp only; omega) he
        have ho := run_all hR
        refine ⟨by omega, h2, o, ds, nd, id, B, h.symm, hR, ?_, ho⟩
        intro x hx
        rw [← h] at hx
        rcases List.mem_append.1 hx with hx | hx
        · exact (base_bd hw).1 x hx
        · exact digZ_all ho x hx
    · rw [if_pos h2] at h; simp at h
theorem base_split {l l' D D' : List Int} (h : baseOf l ++ D = baseOf l' ++ D') (h1 : (45 : Int) ∉ D) (h2 : (45 : Int) ∉ D') : lt 128 l = lt 128 l' ∧ D = D' := by
  unfold baseOf at h
  by_cases e1 : lt 128 l = []
  · rw [if_pos e1, e1] at h
    by_cases e2 : lt 128 l' = []
    · rw [if_pos e2, e2] at h
      exact ⟨by rw [e1, e2], by simpa using h⟩
    · rw [if_neg e2] at h
      exfalso
      simp only [List.nil_append, List.append_assoc, List.append_nil] at h
      exact h1 (by rw [h]; simp)
  · rw [if_neg e1] at h
    by_cases e2 : lt 128 l' = []
    · rw [if_pos e2, e2] at h
      exfalso
      simp only [List.nil_append, List.append_assoc, List.append_nil] at h
      exact h2 (by rw [← h]; simp)
    · rw [if_neg e2] at h
      simp only [List.append_assoc, List.cons_append, List.nil_append] at h
      exact split_last h h1 h2
/-- unlike runes have unlike texts -/
theorem encS_inj {l l' r r' : List Int} (h : encS l = (r, 0)) (h' : encS l' = (r', 0)) (he : r.map u8 = r'.map u8) : l = l' := by
  obtain ⟨_, _, o, ds, nd, id, B, e1, hR, hb, ho⟩ := encS_ok h
  obtain ⟨_, _, o', ds', nd', id', B', e2, hR', hb', ho'⟩ := encS_ok h'
  have hr := u8_inj hb hb' he
  rw [e1, e2] at hr
  obtain ⟨hbas, hd⟩ := base_split hr (no_hyphen ho) (no_hyphen ho')
  have hoo := digZ_inj ho ho' hd
  rw [← hoo, ← hbas] at hR'
  exact run_fun hR hR'
theorem at_list (u : ByteArray) (j : Nat) (h : j < u.size) : ∃ c, u.data.toList[j]? = some c ∧ u.data[j]! = c := by
  have hs : j < u.data.size := h
  exact ⟨u.data[j], by simp, by rw [getElem!_pos u.data j hs]⟩
theorem lastH_at (u : ByteArray) (a c : List UInt8) (h : u.data.toList = a ++ 45 :: c) (hc : (45 : UInt8) ∉ c) : lastH u = a.length := by
  have hsz : u.size = a.length + c.length + 1 := by
    have := congrArg List.length h
    rw [Array.length_toList, List.length_append, List.length_cons] at this
    show u.data.size = _
    omega
  rcases Lib.lastIndexByte_spec u 45 with ⟨_, hn⟩ | ⟨i, hi, he, hq, hn⟩
  · exfalso
    obtain ⟨x, h1, h2⟩ := at_list u a.length (by omega)
    have := hn a.length (by omega)
    rw [h2] at this
    rw [h, List.getElem?_append_right (Nat.le_refl _), Nat.sub_self] at h1
    simp only [List.getElem?_cons_zero, Option.some.injEq] at h1
    subst h1
    exact this rfl
  · have hia : i = a.length := by
      apply Classical.byContradiction
      intro hne
      by_cases hlt : i < a.length
      · obtain ⟨x, h1, h2⟩ := at_list u a.length (by omega)
        have := hn a.length hlt (by omega)
        rw [h2] at this
        rw [h, List.getElem?_append_right (Nat.le_refl _), Nat.sub_self] at h1
        simp only [List.getElem?_cons_zero, Option.some.injEq] at h1
        subst h1
        exact this rfl
      · obtain ⟨x, h1, h2⟩ := at_list u i hi
        rw [h2] at hq
        rw [h, List.getElem?_append_right (by omega), show i - a.length = (i - a.length - 1) + 1 by omega, List.getElem?_cons_succ] at h1
        have hx : x = 45 := by
          apply UInt8.toNat_inj.1
          have : (x.toNat : Int) = 45 := hq
          show x.toNat = 45
          omega
        subst hx
        exact hc (List.mem_of_getElem? h1)
    unfold lastH
    rw [he, hia]
theorem lastH_none (u : ByteArray) (h : (45 : UInt8) ∉ u.data.toList) : lastH u = -1 := by
  rcases Lib.lastIndexByte_spec u 45 with ⟨he, _⟩ | ⟨i, hi, he, hq, hn⟩
  · exact he
  · exfalso
    obtain ⟨x, h1, h2⟩ := at_list u i hi
    rw [h2] at hq
    have hx : x = 45 := by
      apply UInt8.toNat_inj.1
      have : (x.toNat : Int) = 45 := hq
      show x.toNat = 45
      omega
    subst hx
    exact h (List.mem_of_getElem? h1)
theorem u8_toNat {x : Int} (h0 : 0 ≤ x) (h1 : x < 256) : ((u8 x).toNat : Int) = x := by
  unfold u8; rw [U.u8_nat (by omega)]; omega
theorem toInts_u8 {l : List Int} (h : ∀ x ∈ l, 0 ≤ x ∧ x < 256) : toInts (l.map u8) = l := by
  unfold toInts
  rw [List.map_map]
  conv => rhs; rw [← List.map_id l]
  apply List.map_congr_left
  intro x hx
  exact u8_toNat (h x hx).1 (h x hx).2
theorem valN_digZ {x : Int} (h0 : 0 ≤ x) (h1 : x ≤ 35) : valN (u8 (digZ x)).toNat = some x := by
  have hd := digZ_bd h0 h1
  have e : (u8 (digZ x)).toNat = (digZ x).toNat := by unfold u8; rw [U.u8_nat (by omega)]
  rw [e]
  unfold valN digZ
  split
  · rw [if_pos (by omega)]; congr 1; omega
  · rw [if_neg (by omega), if_neg (by omega), if_pos (by omega)]; congr 1; omega
theorem dec_nil : ∀ (f : Nat) (s : List UInt8) (n i b : Int) (out : List Int), (dec f s n i b out).2 ≠ 0 → (dec f s n i b out).1 = []
  | f, [], _, _, _, _, h => by
    exfalso; apply h
    cases f <;> rfl
  | 0, _ :: _, _, _, _, _, h => by exfalso; exact h rfl
  | f + 1, c :: t, n, i, b, out, h => by
    rw [dec] at h ⊢
    cases hn : num (c :: t) 36 1 i b with
    | err e => rfl
    | ok i' rest =>
      rw [hn] at h
      dsimp only at h ⊢
      split
      · rename_i hm
        rw [if_pos hm] at h
        exact dec_nil f rest _ _ _ _ h
      · rfl
theorem decS_nil {u : ByteArray} {L : List Int} {c : Int} (h : decS u = (L, c)) (hc : c ≠ 0) : L = [] := by
  unfold decS at h
  split at h
  · simp only [Prod.mk.injEq] at h; exact h.1.symm
  · split at h
    · simp only [Prod.mk.injEq] at h; exact h.1.symm
    · have h1 := dec_nil (numsL u).length (numsL u) 128 0 72 (toInts (plainL u))
      rw [h] at h1
      exact h1 hc
/-- what is read may be -/
theorem decS_ok {u : ByteArray} {L : List Int} (h : decS u = (L, 0)) : L.map U.rep = L ∧ (∀ x ∈ toInts (plainL u), 0 ≤ x ∧ x < 128) ∧ ∃ ds vs n i B, Run (toInts (plainL u)) ds vs n i B L ∧ (numsL u).map (fun c => valN c.toNat) = vs.map some ∧ dec (numsL u).length (numsL u) 128 0 72 (toInts (plainL u)) = (L, 0) := by
  unfold decS at h
  split at h
  · simp at h
  · split at h
    · simp at h
    · rename_i hp
      have hb : ∀ x ∈ toInts (plainL u), 0 ≤ x ∧ x < 128 := by
        intro x hx
        unfold toInts at hx
        obtain ⟨c, hc, rfl⟩ := List.mem_map.1 hx
        have : ¬ 128 ≤ c.toNat := fun h => hp ⟨c, hc, h⟩
        omega
      obtain ⟨ds, vs, n, i, B, r1, r2, r3⟩ := dec_run _ _ _ _ _ _ L _ [] [] Run.start (Nat.le_refl _) h
      refine ⟨?_, hb, ds, vs, n, i, B, by simpa using r1, r2, h⟩
      rw [rep_all]
      intro x hx
      rcases r3 x hx with h | h
      · have := hb x h; unfold U.May; omega
      · exact h
/-- what is read, written again, is read as the same -/
theorem once {u t : ByteArray} {L r : List Int} (h : decS u = (L, 0)) (h2 : encS L = (r, 0)) (ht : t.data.toList = r.map u8) (hl : t.size ≤ 4096) : decS t = (L, 0) := by
  obtain ⟨_, hb, ds, vs, n, i, B, hR, hv, hdec⟩ := decS_ok h
  obtain ⟨_, _, o, ds', nd, id, B', e1, hR', hrb, ho⟩ := encS_ok h2
  have hlt : ∀ x ∈ lt 128 L, x < 128 := by
    intro x hx
    unfold lt at hx
    rw [List.mem_filter] at hx
    simpa using hx.2
  obtain ⟨hbas, _, hvo, _⟩ := run_inj (fun x hx => (hb x hx).2) hlt hR hR'
  have hd45 : (45 : UInt8) ∉ (o.map digZ).map u8 := by
    intro hm
    obtain ⟨x, hx, e⟩ := List.mem_map.1 hm
    have hxb := digZ_all ho x hx
    have := u8_toNat hxb.1 hxb.2
    rw [e] at this
    have e45 : ((45 : UInt8).toNat : Int) = 45 := rfl
    rw [e45] at this
    subst this
    exact no_hyphen ho hx
  have hbb : ∀ x ∈ lt 128 L, 0 ≤ x ∧ x < 256 := by
    intro x hx
    rw [← hbas] at hx
    have := hb x hx; omega
  have hnums : ((o.map digZ).map u8).map (fun c => valN c.toNat) = vs.map some := by
    rw [List.map_map, List.map_map, hvo]
    apply List.map_congr_left
    intro x hx
    exact valN_digZ (ho x hx).1 (ho x hx).2
  have key : plainL t = (lt 128 L).map u8 ∧ numsL t = (o.map digZ).map u8 := by
    rw [e1] at ht
    unfold baseOf at ht
    by_cases e : lt 128 L = []
    · rw [if_pos e, e] at ht
      simp only [List.nil_append, List.append_nil] at ht
      have hlh := lastH_none t (by rw [ht]; exact hd45)
      unfold plainL numsL
      rw [hlh, e, ht]
      exact ⟨rfl, rfl⟩
    · rw [if_neg e] at ht
      have ht2 : t.data.toList = (lt 128 L).map u8 ++ 45 :: (o.map digZ).map u8 := by
        rw [ht, List.map_append, List.map_append, List.append_assoc]; rfl
      have hlh := lastH_at t _ _ ht2 hd45
      unfold plainL numsL
      rw [hlh, ht2]
      constructor
      · rw [Int.toNat_natCast, List.take_left]
      · rw [show ((((lt 128 L).map u8).length : Int) + 1).toNat = ((lt 128 L).map u8).length + 1 by omega]
        rw [List.drop_append]
        simp
  obtain ⟨kp, kn⟩ := key
  unfold decS
  rw [if_neg (by omega), if_neg (by
    rintro ⟨c, hc, hc2⟩
    rw [kp] at hc
    obtain ⟨x, hx, rfl⟩ := List.mem_map.1 hc
    have h1 := hlt x hx
    have h2 := hbb x hx
    have := u8_toNat h2.1 h2.2
    omega), kp, kn, toInts_u8 hbb, ← hbas, ← hdec]
  exact dec_cong _ _ _ _ _ _ _ _ (Nat.le_refl _) (Nat.le_refl _) (by rw [hnums, hv])
end Go.Proofs.Ythdodmbopchfdaa
