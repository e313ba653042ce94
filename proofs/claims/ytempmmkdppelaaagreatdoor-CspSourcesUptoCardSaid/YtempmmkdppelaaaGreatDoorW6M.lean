import Derived.Test.YtempmmkdppelaaaGreatDoorU3M
/-
  The walk of CspHeaders.
-/
namespace Go.Proofs.YtempmmkdppelaaaGreatDoor
open Go.RowKit
theorem stepD_mod {st : Option (List Dir)} {p : List UInt8} (h : ∀ l, st = some l → l.length ≤ 64 ∧ ∀ x ∈ l, x.2.length ≤ 64) : ∀ l, stepD st p = some l → l.length ≤ 64 ∧ ∀ x ∈ l, x.2.length ≤ 64 := by
  intro l hl
  unfold stepD at hl
  cases st with
  | none => cases hl
  | some l0 =>
    have h0 := h l0 rfl
    simp only at hl
    split at hl
    · cases hl; exact h0
    · split at hl
      · cases hl; exact h0
      · split at hl
        · cases hl
        · rename_i hno
          cases hl
          refine ⟨by rw [List.length_append]; simp; omega, fun x hx => ?_⟩
          rcases List.mem_append.1 hx with hx | hx
          · exact h0.2 x hx
          · rw [List.mem_singleton] at hx; subst hx; simp only; omega
theorem partsD_mod (ps : List (List UInt8)) : ∀ l, partsD ps = some l → l.length ≤ 64 ∧ ∀ x ∈ l, x.2.length ≤ 64 := by
  unfold partsD
  suffices ∀ (ps : List (List UInt8)) (st : Option (List Dir)), (∀ l, st = some l → l.length ≤ 64 ∧ ∀ x ∈ l, x.2.length ≤ 64) → ∀ l, ps.foldl stepD st = some l → l.length ≤ 64 ∧ ∀ x ∈ l, x.2.length ≤ 64 from
    this ps (some []) (fun l hl => by cases hl; simp)
  intro ps
  induction ps with
  | nil => exact fun st h => h
  | cons p ps ih => exact fun st h => ih _ (stepD_mod h)
theorem parseP_mod {s : ByteArray} {l : List Dir} (h : parseP s = .ok l) : l.length ≤ 64 ∧ ∀ x ∈ l, x.2.length ≤ 64 := by
  unfold parseP at h
  split at h
  · cases h
  · split at h
    · cases h
    · rename_i hp; cases h
      exact partsD_mod _ _ hp
theorem mod_of {l : List Dir} (h : l.length ≤ 64 ∧ ∀ x ∈ l, x.2.length ≤ 64) : Mod l := ⟨by omega, fun x hx => by have := h.2 x hx; omega⟩
theorem foldH_mod (ps : List (List UInt8)) : ∀ l, foldH ps = .ok l → ∀ x ∈ l, Mod x := by
  unfold foldH
  suffices ∀ (ps : List (List UInt8)) (st : Except Nat (List (List Dir))), (∀ l, st = .ok l → ∀ x ∈ l, Mod x) → ∀ l, ps.foldl stepH st = .ok l → ∀ x ∈ l, Mod x from
    this ps (.ok []) (fun l hl => by cases hl; simp)
  intro ps
  induction ps with
  | nil => exact fun st h => h
  | cons p ps ih =>
    refine fun st h => ih _ ?_
    intro l hl
    unfold stepH at hl
    cases st with
    | error c => cases hl
    | ok out =>
      have h0 := h out rfl
      simp only at hl
      split at hl
      · cases hl
      · rename_i l1 hl1
        split at hl
        · cases hl
          intro x hx
          rcases List.mem_append.1 hx with hx | hx
          · exact h0 x hx
          · rw [List.mem_singleton] at hx; subst hx; exact mod_of (parseP_mod hl1)
        · cases hl; exact h0
def heC (st : Except Nat (List (List Dir))) : Nat := match st with | .error c => c | .ok _ => 0
def heL (st : Except Nat (List (List Dir))) : List (List Dir) := match st with | .error _ => [] | .ok l => l
theorem headP_mod (l : List ByteArray) : (heL (headP l)).length ≤ 64 ∧ ∀ x ∈ heL (headP l), Mod x := by
  unfold headP
  split
  · exact ⟨by simp [heL], by simp [heL]⟩
  · rename_i out h
    split
    · exact ⟨by simp [heL], by simp [heL]⟩
    · exact ⟨by simp only [heL]; omega, foldH_mod _ _ h⟩
theorem header_pols (lv : Value) (l : List ByteArray) (rep : Bool) (st : Except Nat (List (List Dir))) (hst : headP l = st) (hm : l.length ≤ 2097152) (hz : ∀ x ∈ l, x.size ≤ 2097152) (w : World) (hv : Strs w lv l) :
    Calls Tryz.prog 12 #[lv, .bool rep] w fun e w' => (∃ q c, e = .returned (.tuple #[.slice q (heL st).length c, .int .i64 (heC st)]) ∧ Pols w' rep (.slice q (heL st).length c) (heL st)) ∧ Below w.heap.size w w' := by
  refine ((callsIn_wide (n := 6)).1 (header_box 6 (Nat.le_refl _) lv l rep hm hz w hv)).mono ?_
  rintro e w' ⟨h, hb⟩
  refine ⟨?_, hb⟩
  rw [hst] at h
  cases st with
  | error c => exact ⟨none, 0, h, none, 0, rfl, fun i x hx => by simp [heL] at hx⟩
  | ok l' =>
    obtain ⟨v, ps, he, ho, hl⟩ := h
    have hp := ho.lies
    rw [← hl] at hp
    have hp' := hp
    obtain ⟨p, cap, hv', _⟩ := hp
    subst hv'
    exact ⟨p, cap, he, hp'⟩
theorem partsAt_join (c : UInt8) (a b : List UInt8) : Ks.partsAt c (a ++ c :: b) = Ks.partsAt c a ++ Ks.partsAt c b := by
  induction a with
  | nil => simp [Ks.partsAt]
  | cons x a ih =>
    rw [List.cons_append, Ks.partsAt, Ks.partsAt]
    by_cases h : x = c
    · rw [if_pos h, if_pos h, ih]; rfl
    · rw [if_neg h, if_neg h, ih]
      cases hp : Ks.partsAt c a with
      | nil => exact absurd hp (Ks.partsAt_ne c a)
      | cons y ys => rfl
theorem head_join (a b : ByteArray) : headP [a ++ ⟨#[44]⟩ ++ b] = headP [a, b] := by
  unfold headP
  have : partsH [a ++ ⟨#[44]⟩ ++ b] = partsH [a, b] := by
    unfold partsH
    simp only [List.flatMap_cons, List.flatMap_nil, List.append_nil, ByteArray.data_append, Array.toList_append]
    rw [List.append_assoc]
    exact partsAt_join 44 _ _
  rw [this]
theorem strs_two (w : World) (a b : ByteArray) : Strs (w.alloc (.cells #[.string a, .string b] 9)) (.slice (some ⟨w.heap.size, 0, none⟩) 2 2) [a, b] :=
  ⟨_, 2, rfl, fun i x hi => by
    refine ⟨w.heap.size, 0, rfl, by simp, ?_⟩
    match i, hi with
    | 0, hi => cases hi; exact (Has.new w _).cell 0 rfl
    | 1, hi => cases hi; exact (Has.new w _).cell 1 rfl
    | i + 2, hi => simp at hi⟩
theorem strs_one (w : World) (a : ByteArray) : Strs (w.alloc (.cells #[.string a] 9)) (.slice (some ⟨w.heap.size, 0, none⟩) 1 1) [a] :=
  ⟨_, 1, rfl, fun i x hi => by
    refine ⟨w.heap.size, 0, rfl, by simp, ?_⟩
    match i, hi with
    | 0, hi => cases hi; exact (Has.new w _).cell 0 rfl
    | i + 1, hi => simp at hi⟩
set_option maxHeartbeats 2000000 in
set_option maxRecDepth 100000 in
theorem CspHeaders_std (a b : ByteArray) (rep : Bool) (hab : a.size + b.size ≤ 1048576) (w : World) (hM : ML w) :
    Calls Tryz.prog 6 #[.string a, .string b, .bool rep] w fun e w' => e = .returned (.bool true) ∧ Below w.heap.size w w' := by
  have HL := Lib.hid (lives_is w hM)
  have i2 : ¬ 9223372036854775807 < a.size + 1 := by omega
  have i3 : ¬ 9223372036854775807 < a.size + 1 + b.size := by omega
  obtain ⟨st, hst⟩ : ∃ st, headP [a, b] = st := ⟨_, rfl⟩
  have hmod := headP_mod [a, b]
  rw [hst] at hmod
  have HH1 := Lib.hid (fun W : World => header_pols _ [a, b] rep st hst (by simp) (by intro x hx; simp only [List.mem_cons, List.mem_nil_iff, or_false] at hx; rcases hx with rfl | rfl <;> omega) _ (strs_two W a b))
  have HH2 := Lib.hid (fun W : World => header_pols _ [a ++ ⟨#[44]⟩ ++ b] rep st ((head_join a b).trans hst) (by simp) (by intro x hx; simp only [List.mem_cons, List.mem_nil_iff, or_false] at hx; subst hx; rw [ByteArray.size_append, ByteArray.size_append]; have : ByteArray.size ⟨#[44]⟩ = 1 := rfl; omega) _ (strs_one W _))
  generalize heC st = c at *
  generalize heL st = l at *
  have HMO := Lib.hid hmod
  clear hst hM hmod
  go_enter Tryz.func6, Tryz.ntmps6
  go_wp2_with (go_at_call 18; refine HL.out.mono ?_; rintro e w1 ⟨rfl, hb1⟩; have HB1 := Lib.hid hb1; clear hb1)
  refine (HH1.out _).mono ?_
  rintro e w2 ⟨⟨q1, c1, rfl, hp1⟩, hb2⟩
  have HB2 := Lib.hid ((HB1.out.alloc HB1.out.size (.cells #[.string a, .string b] 9)).trans (hb2.mono (by have := HB1.out.size; simp; omega)))
  have HP2 := Lib.hid hp1
  clear hb2 hp1 HB1
  go_wp2_with fail
  refine (HH2.out _).mono ?_
  rintro e w3 ⟨⟨q2, c2, rfl, hp2⟩, hb3⟩
  have HB3 := Lib.hid ((HB2.out.alloc HB2.out.size (.cells #[.string (a ++ ⟨#[44]⟩ ++ b)] 9)).trans (hb3.mono (by have := HB2.out.size; simp; omega)))
  have HP3 := Lib.hid ((HP2.out.to (bnew _ _)).to hb3)
  have HQ3 := Lib.hid hp2
  clear hb3 hp2 HB2 HP2
  have HSA := Lib.hid (sameAll_is _ _ rep l l (by have := HMO.out.1; omega) (by have := HMO.out.1; omega) HMO.out.2 HMO.out.2 w3 HP3.out HQ3.out true (by simp))
  go_wp2_with (go_at_call 20; refine HSA.out.mono ?_; rintro e w4 ⟨rfl, hb4⟩; have HB4 := Lib.hid (HB3.out.trans (hb4.mono HB3.out.size)); clear hb4)
  go_ret
  exact ⟨rfl, HB4.out⟩
end Go.Proofs.YtempmmkdppelaaaGreatDoor
/-
  Words between blanks, byte by byte.
-/
namespace Go.Proofs.YtempmmkdppelaaaGreatDoor
open Go.RowKit
def blankB (b : UInt8) : Bool := blanksL.contains b
/-- words, byte by byte; cur is the word that is open -/
def wB : List UInt8 → List UInt8 → List (List UInt8)
  | cur, [] => if cur = [] then [] else [cur]
  | cur, b :: r => if blankB b then (if cur = [] then wB [] r else cur :: wB [] r) else wB (cur ++ [b]) r
theorem wB_app : ∀ (x cur r : List UInt8), (∀ b ∈ x, blankB b = false) → wB cur (x ++ r) = wB (cur ++ x) r
  | [], cur, r, _ => by simp
  | b :: x, cur, r, h => by
    rw [List.cons_append, wB, h b (by simp)]
    simp only [Bool.false_eq_true, if_false]
    rw [wB_app x (cur ++ [b]) r fun y hy => h y (by simp [hy]), List.append_assoc]; rfl
theorem wB_blank (cur r : List UInt8) (b : UInt8) (hb : blankB b = true) (hc : cur ≠ []) : wB cur (b :: r) = cur :: wB [] r := by
  rw [wB, if_pos hb, if_neg hc]
theorem wB_skip (r : List UInt8) (b : UInt8) (hb : blankB b = true) : wB [] (b :: r) = wB [] r := by
  rw [wB, if_pos hb, if_pos rfl]
theorem wB_word : ∀ (r cur : List UInt8), (∀ b ∈ cur, blankB b = false) → ∀ w ∈ wB cur r, w ≠ [] ∧ ∀ b ∈ w, blankB b = false ∧ (b ∈ cur ∨ b ∈ r)
  | [], cur, h, w, hw => by
    rw [wB] at hw
    split at hw
    · simp at hw
    · rename_i hc
      rw [List.mem_singleton] at hw; subst hw
      exact ⟨hc, fun b hb => ⟨h b hb, .inl hb⟩⟩
  | b :: r, cur, h, w, hw => by
    rw [wB] at hw
    split at hw
    · split at hw
      · obtain ⟨h1, h2⟩ := wB_word r [] (by simp) w hw
        exact ⟨h1, fun x hx => ⟨(h2 x hx).1, .inr (by rcases (h2 x hx).2 with h | h
                                                      · simp at h
                                                      · simp [h])⟩⟩
      · rename_i hc
        rcases List.mem_cons.1 hw with rfl | hw
        · exact ⟨hc, fun x hx => ⟨h x hx, .inl hx⟩⟩
        · obtain ⟨h1, h2⟩ := wB_word r [] (by simp) w hw
          exact ⟨h1, fun x hx => ⟨(h2 x hx).1, .inr (by rcases (h2 x hx).2 with h | h
                                                        · simp at h
                                                        · simp [h])⟩⟩
    · rename_i hb
      obtain ⟨h1, h2⟩ := wB_word r (cur ++ [b]) (by
        intro x hx
        rcases List.mem_append.1 hx with hx | hx
        · exact h x hx
        · rw [List.mem_singleton] at hx; subst hx; simpa using hb) w hw
      refine ⟨h1, fun x hx => ⟨(h2 x hx).1, ?_⟩⟩
      rcases (h2 x hx).2 with h | h
      · rcases List.mem_append.1 h with h | h
        · exact .inl h
        · rw [List.mem_singleton] at h; exact .inr (by simp [h])
      · exact .inr (by simp [h])
theorem dec_low (s : ByteArray) (i : Nat) (hi : i < s.size) (h : s[i].toNat < 128) : Utf8.decode s i = (s[i].toNat, 1) := by
  have h0 : s.get! i = s[i] := by
    rw [show s.get! i = s.data[i]! from rfl, getElem!_pos s.data i hi]; rfl
  rw [Lib.decode_at, h0]
  exact Lib.decodeN_ascii _ _ _ _ _ h
theorem blank_byte (b : UInt8) (h : b.toNat < 128) : blankR b.toNat = blankB b := by
  unfold blankR blankB
  rw [inR_is, decide_eq_true h, Bool.true_and]; simp
theorem blank_high {r : Nat} (h : 128 ≤ r) : blankR r = false := by
  unfold blankR
  rw [inR_is, decide_eq_false (by omega), Bool.false_and]
theorem blankB_high {b : UInt8} (h : 128 ≤ b.toNat) : blankB b = false := by
  unfold blankB blanksL
  simp only [List.contains_cons, List.contains_nil, Bool.or_false, Bool.or_eq_false_iff, beq_eq_false_iff_ne]
  refine ⟨?_, ?_, ?_, ?_, ?_⟩ <;> (intro e; subst e; revert h; decide)
theorem ext_list (s : ByteArray) (a b : Nat) : (s.extract a b).data.toList = (s.data.toList.take b).drop a := by
  simp only [ByteArray.data_extract, Array.toList_extract, List.extract_eq_take_drop]
  rw [List.drop_take]
/-- the next rune is a chunk of bytes, blank and alone or of none that is blank -/
theorem chunk (s : ByteArray) (pos : Nat) (h : pos < s.size) :
    (blankR (Utf8.decode s pos).1 = true ∧ (Utf8.decode s pos).2 = 1 ∧ blankB s[pos] = true) ∨
    (blankR (Utf8.decode s pos).1 = false ∧ 1 ≤ (Utf8.decode s pos).2 ∧ pos + (Utf8.decode s pos).2 ≤ s.size ∧ ∀ j, pos ≤ j → j < pos + (Utf8.decode s pos).2 → ∀ b, s.data.toList[j]? = some b → blankB b = false) := by
  by_cases h1 : s[pos].toNat < 128
  · rw [dec_low s pos h h1]
    simp only
    rw [blank_byte _ h1]
    cases hb : blankB s[pos] with
    | true => exact .inl (by simp)
    | false =>
      refine .inr ⟨by simp, Nat.le_refl _, by omega, fun j hj hj2 b hbj => ?_⟩
      obtain rfl : j = pos := by omega
      have : s.data.toList[j]? = some s[j] := by rw [List.getElem?_eq_getElem (by rw [Ks.len_list]; exact h)]; rfl
      rw [this] at hbj; cases hbj; exact hb
  · obtain ⟨d1, _, d3, d4, d5⟩ := dec_high s pos h (by omega)
    exact .inr ⟨blank_high d1, d3, d4, fun j hj hj2 b hb => blankB_high (d5 j hj hj2 b hb)⟩
def curL (l : List UInt8) (pos : Nat) (st : Option Nat) : List UInt8 := match st with | some a => (l.take pos).drop a | none => []
theorem spans_wB (s : ByteArray) : ∀ (f pos : Nat) (st : Option Nat) (acc : List (Nat × Nat)), s.size - pos ≤ f → pos ≤ s.size → (∀ a, st = some a → a < pos) →
    (Lib.closeSpans s (Lib.spansFromP blankR s f pos st acc)).map (fun x => (s.extract x.1 x.2).data.toList) = acc.map (fun x => (s.extract x.1 x.2).data.toList) ++ wB (curL s.data.toList pos st) (s.data.toList.drop pos) := by
  intro f
  induction f with
  | zero =>
    intro pos st acc hf hp hst
    have hpe : pos = s.size := by omega
    subst hpe
    rw [Lib.spansFromP_end _ _ _ _ _ _ (by omega), List.drop_of_length_le (by rw [Ks.len_list]; exact Nat.le_refl _)]
    cases st with
    | none => simp [Lib.closeSpans, curL, wB]
    | some a =>
      have ha := hst a rfl
      have hne : curL s.data.toList s.size (some a) ≠ [] := by
        intro h
        have := congrArg List.length h
        unfold curL at this
        rw [List.length_drop, List.length_take, Ks.len_list] at this
        simp at this; omega
      rw [wB, if_neg hne]
      unfold Lib.closeSpans
      simp only [List.map_append, List.map_cons, List.map_nil, ext_list]
      rfl
  | succ f ih =>
    intro pos st acc hf hp hst
    by_cases hlt : pos < s.size
    · have hd : s.data.toList.drop pos = s[pos] :: s.data.toList.drop (pos + 1) := by
        have := List.drop_eq_getElem_cons (l := s.data.toList) (i := pos) (by rw [Ks.len_list]; exact hlt)
        exact this
      unfold Lib.spansFromP
      rw [if_pos hlt]
      rcases chunk s pos hlt with ⟨c1, c2, c3⟩ | ⟨c1, c2, c3, c4⟩
      · rw [c1, c2]
        simp only [if_true]
        cases st with
        | none =>
          simp only
          rw [ih (pos + 1) none acc (by omega) (by omega) (by simp), hd]
          show _ ++ wB [] _ = _ ++ wB [] _
          rw [wB_skip _ _ c3]
        | some a =>
          have ha := hst a rfl
          have hne : curL s.data.toList pos (some a) ≠ [] := by
            intro h
            have := congrArg List.length h
            unfold curL at this
            rw [List.length_drop, List.length_take, Ks.len_list] at this
            simp at this; omega
          simp only
          rw [ih (pos + 1) none (acc ++ [(a, pos)]) (by omega) (by omega) (by simp), hd, wB_blank _ _ _ c3 hne]
          simp only [List.map_append, List.map_cons, List.map_nil, ext_list, List.append_assoc, List.singleton_append]
          rfl
      · rw [c1]
        simp only [Bool.false_eq_true, if_false]
        generalize (Utf8.decode s pos).2 = n at *
        have hsplit : s.data.toList.drop pos = (s.data.toList.drop pos).take n ++ s.data.toList.drop (pos + n) := by
          conv => lhs; rw [← List.take_append_drop n (s.data.toList.drop pos)]
          rw [List.drop_drop]
        have hnb : ∀ b ∈ (s.data.toList.drop pos).take n, blankB b = false := by
          intro b hb
          obtain ⟨i, hi, rfl⟩ := List.getElem_of_mem hb
          rw [List.length_take] at hi
          refine c4 (pos + i) (by omega) (by omega) _ ?_
          rw [List.getElem_take, List.getElem_drop]
          exact List.getElem?_eq_getElem _
        have hcur : ∀ a, a ≤ pos → (s.data.toList.take (pos + n)).drop a = (s.data.toList.take pos).drop a ++ (s.data.toList.drop pos).take n := by
          intro a ha
          rw [List.take_add, List.drop_append_of_le_length (by rw [List.length_take, Ks.len_list]; omega)]
        cases st with
        | none =>
          simp only
          rw [ih (pos + n) (some pos) acc (by omega) (by omega) (by intro a h; cases h; omega)]
          congr 1
          conv => rhs; rw [hsplit]
          rw [wB_app _ _ _ hnb]
          congr 1
          show (s.data.toList.take (pos + n)).drop pos = [] ++ _
          rw [hcur pos (Nat.le_refl _), List.drop_of_length_le (by rw [List.length_take]; omega)]
        | some a =>
          have ha := hst a rfl
          simp only
          rw [ih (pos + n) (some a) acc (by omega) (by omega) (by intro a' h; cases h; omega)]
          congr 1
          conv => rhs; rw [hsplit]
          rw [wB_app _ _ _ hnb]
          congr 1
          exact hcur a (by omega)
    · have hpe : pos = s.size := by omega
      subst hpe
      rw [Lib.spansFromP_end _ _ _ _ _ _ hlt, List.drop_of_length_le (by rw [Ks.len_list]; exact Nat.le_refl _)]
      cases st with
      | none => simp [Lib.closeSpans, curL, wB]
      | some a =>
        have ha := hst a rfl
        have hne : curL s.data.toList s.size (some a) ≠ [] := by
          intro h
          have := congrArg List.length h
          unfold curL at this
          rw [List.length_drop, List.length_take, Ks.len_list] at this
          simp at this; omega
        rw [wB, if_neg hne]
        unfold Lib.closeSpans
        simp only [List.map_append, List.map_cons, List.map_nil, ext_list]
        rfl
theorem words_eq (p : List UInt8) : wordsL p = (wB [] p).map fun x => (⟨x.toArray⟩ : ByteArray) := by
  have h := spans_wB ⟨p.toArray⟩ (ByteArray.size ⟨p.toArray⟩) 0 none [] (by omega) (Nat.zero_le _) (by simp)
  have h' := congrArg (List.map fun x : List UInt8 => (⟨x.toArray⟩ : ByteArray)) h
  rw [List.map_map] at h'
  unfold wordsL Lib.goFieldsP Lib.spansOfP
  refine (Eq.trans ?_ h').trans ?_
  · apply List.map_congr_left
    intro x _
    rfl
  · simp [curL]
end Go.Proofs.YtempmmkdppelaaaGreatDoor
