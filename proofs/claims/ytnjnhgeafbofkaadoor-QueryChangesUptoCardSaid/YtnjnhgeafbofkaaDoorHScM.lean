import Derived.Test.YtnjnhgeafbofkaaDoorHSbM
/-
  Mathematics of query.Sort: what is ordered stays; of one name the order stays.
-/
namespace Go.Proofs.YtnjnhgeafbofkaaDoor
open Go.RowKit
section
variable {α : Type}
theorem snoc_ind {p : List α → Prop} (h0 : p []) (h : ∀ l x, p l → p (l ++ [x])) (l : List α) : p l := by
  have : ∀ n, ∀ l : List α, l.length = n → p l := by
    intro n
    induction n with
    | zero => intro l hl; rw [List.eq_nil_of_length_eq_zero hl]; exact h0
    | succ n ih =>
      intro l hl
      have hne : l ≠ [] := fun e => by rw [e] at hl; simp at hl
      rw [← List.dropLast_concat_getLast hne]
      exact h _ _ (ih _ (by rw [List.length_dropLast]; omega))
  exact this _ l rfl
theorem S_idem {lt : α → α → Bool} (l : List α) : SM.Srt lt l → SM.S lt l = l := by
  refine snoc_ind (p := fun l => SM.Srt lt l → SM.S lt l = l) (fun _ => rfl) (fun l x ih hs => ?_) l
  unfold SM.Srt at hs ih
  rw [List.pairwise_append] at hs
  rw [SM.S_snoc, ih hs.1]
  have := SM.mrg_one (lt := lt) (A := l) (B := []) (x := x) (fun a ha => hs.2.2 a ha x (List.mem_singleton.2 rfl)) (fun b hb => by cases hb)
  rw [List.append_nil] at this
  exact this
theorem S_S {lt : α → α → Bool} (O : SM.Ord lt) (l : List α) : SM.S lt (SM.S lt l) = SM.S lt l := S_idem _ (SM.S_srt O l)
theorem S_filter {lt : α → α → Bool} (O : SM.Ord lt) (P : α → Bool) (hP : ∀ a b, P a = true → P b = true → lt a b = false) (l : List α) : (SM.S lt l).filter P = l.filter P := by
  refine snoc_ind (p := fun l => (SM.S lt l).filter P = l.filter P) rfl (fun l x ih => ?_) l
  obtain ⟨A, B, hAB, hA, hB⟩ := SM.srt_split O (SM.S_srt O l) x
  rw [SM.S_snoc, hAB, SM.mrg_one hA hB, List.filter_append, List.filter_append, ← ih, hAB, List.filter_append]
  cases hx : P x with
  | true =>
    have hBn : B.filter P = [] := by
      rw [List.filter_eq_nil_iff]
      intro b hb hpb
      have := hP x b hx hpb
      rw [hB b hb] at this; cases this
    simp [hx, hBn]
  | false => simp [hx]
end
def ltF (a b : Fd) : Bool := decide (cmpU (keyU a) (keyU b) < 0)
def sortF (l : List Fd) : List Fd := SM.S ltF l
theorem cmpU_self : ∀ a : List Int, cmpU a a = 0
  | [] => rfl
  | a :: l => by unfold cmpU; rw [if_neg (by omega), if_neg (by omega)]; exact cmpU_self l
theorem ltF_ord : SM.Ord ltF := by
  refine ⟨fun a b c h1 h2 => ?_, fun a b => ?_⟩
  · unfold ltF at *
    rw [decide_eq_false_iff_not] at *
    have := cmpU_trans (keyU a) (keyU b) (keyU c) (by omega) (by omega)
    omega
  · unfold ltF
    rw [decide_eq_false_iff_not, decide_eq_false_iff_not]
    have := cmpU_anti (keyU a) (keyU b)
    omega
theorem sortF_twice (l : List Fd) : sortF (sortF l) = sortF l := S_S ltF_ord l
theorem sortF_len (l : List Fd) : (sortF l).length = l.length := SM.S_length ltF l
theorem sortF_mem (l : List Fd) (x : Fd) : x ∈ sortF l ↔ x ∈ l := (SM.S_perm ltF l).mem_iff
theorem sortF_name (nm : ByteArray) (l : List Fd) : (sortF l).filter (isN nm) = l.filter (isN nm) := by
  refine S_filter ltF_ord (isN nm) (fun a b ha hb => ?_) l
  unfold ltF
  have e : keyU a = keyU b := by
    unfold isN at ha hb
    rw [beq_iff_eq] at ha hb
    have : a.1.data.toList = b.1.data.toList := by
      have h := ha.trans hb.symm
      rw [ByteArray.toList_eq, ByteArray.toList_eq] at h
      exact h
    unfold keyU
    rw [this]
  rw [e, cmpU_self]
  rfl
end Go.Proofs.YtnjnhgeafbofkaaDoor
/-
  The contracts of the document's units and ahead (bastionref11): the UTF-16 of a text; whether a name stands ahead of another one.
-/
namespace Go.Proofs.YtnjnhgeafbofkaaDoor
open Go.RowKit
abbrev OwnJ (w : World) (B : Nat) (v : Value) (l : List Int) : Prop := w.ownsRow B 21 1 v l.length (l.map (Value.int .i32))
theorem one_j (l : List Int) : ∀ u ∈ l.map (Value.int .i32), u.oneCell' = true := by
  intro u hu
  obtain ⟨x, _, rfl⟩ := List.mem_map.1 hu; rfl
theorem own_app_j {w : World} {B : Nat} {v : Value} {l m : List Int} (h : w.ownsRow B 21 1 v (l.length + m.length) (l.map (Value.int .i32) ++ m.map (Value.int .i32))) : OwnJ w B v (l ++ m) := by
  unfold OwnJ; rw [List.length_append, List.map_append]; exact h
theorem own_base_j {w : World} {B B' : Nat} {v : Value} {l : List Int} (h : OwnJ w B v l) (hB : B' ≤ B) : OwnJ w B' v l := ⟨h.1, h.2.imp id (fun ⟨g, cap, cur, h1, h2, h3⟩ => ⟨g, cap, cur, h1, Nat.le_trans hB h2, h3⟩)⟩
set_option maxHeartbeats 2000000 in
set_option maxRecDepth 100000 in
theorem runits_is (s : ByteArray) (R : List Int) (hR : U.runesZ s.data.toList = R) (hs : s.size ≤ 1048576) (w : World) :
    Calls Tryd.prog 62 #[.string s] w fun e w' => (∃ v, e = .returned v ∧ OwnJ w' w.heap.size v (unL R)) ∧ Below w.heap.size w w' := by
  obtain ⟨i0, hi, hz0, hz1, hz2⟩ := info_parts infoRune
  have hmay := U.runes_may s.data.toList
  have hcnt := (U.runes_count s.data.toList).1
  rw [len_list] at hcnt
  rw [hR] at hmay hcnt
  have HMAY := Lib.hid hmay
  have HD := Lib.hid (rdecode_runes s R hR (by omega) w)
  clear hmay hR
  go_enter Tryd.func62, Tryd.ntmps62
  go_wp2_with fail
  refine HD.out.mono ?_
  rintro e w1 ⟨v1, rfl, ⟨p, cap, rfl, hcc⟩, hb1⟩
  have HCC := Lib.hid hcc
  have HB1 := Lib.hid hb1
  clear hb1 hcc
  go_wp2_with fail
  go_loopw [3, 9] (fun s3 i wr => ∃ k : Nat, k ≤ R.length ∧ i = .int .i64 k ∧ Hid (OwnJ wr w1.heap.size s3 (unL (R.take k))) ∧ Hid (Below w.heap.size w wr) ∧ Hid (Below w1.heap.size w1 wr)) (fun _ i _ => R.length - (intOf i).toNat)
  case atStart => exact ⟨0, by omega, rfl, Lib.hid (World.ownsRow_nil _ _ _ _), HB1, Lib.hid (Below.refl _ _)⟩
  case round =>
    obtain ⟨k, hk, rfl, HO, HB, HB'⟩ := hrel
    have hsz := HB'.out.size
    by_cases hlt : k < R.length
    · obtain ⟨g, o, rfl, hg, hx⟩ := HCC.out k R[k] (List.getElem?_eq_getElem hlt)
      have hx2 := (HB'.out.cell (p := ⟨g, o + k, none⟩) hg).trans hx
      have i1 : (k : Int) < (R.length : Int) := by omega
      have HSN := Lib.hid (un_snoc R k hlt)
      have hul : (unL (R.take k)).length ≤ 2 * k := by
        have := un_len (R.take k)
        rw [List.length_take_of_le (by omega)] at this
        exact this
      have hm := HMAY.out _ (List.getElem_mem hlt)
      unfold U.May at hm
      clear hx
      generalize unL (R.take k) = D at *
      generalize R[k] = r at *
      by_cases h6 : r < 65536
      · have HU := Lib.hid (show un1 r = [r] by unfold un1; rw [if_pos h6])
        have h6' : ¬ (65536 : Int) ≤ r := by omega
        go_wp2_with (at_builtin; refine wpList_append_own _ rfl (.tmp 25) (.tmp 27) 87 rfl w1.heap.size 21 i0 (.int .i32 0) 1 4 Tryd.underlying87 hi hz0 hz1 hz2 rfl (by decide) _ _ _ rfl (World.ownsRow.alloc HO.out _) ⟨wr.heap.size, 0, none⟩ 1 1 ([r].map (Value.int .i32)) rfl rfl (fun j u hj => by rw [Addr.add_lit, cell_of_row _ _ _ _ _ _ (heap_alloc_new _ _), Nat.zero_add, List.getElem?_toArray]; exact hj) (one_j _) (by unfold maxLen; omega) (by omega) (by simp; omega) ?_; intro v' w4 hown' hgrow _; have HO4 := Lib.hid (show OwnJ w4 w1.heap.size v' (D ++ [r]) from own_app_j hown'); have HB5 := Lib.hid (show Below w1.heap.size w1 w4 from (HB'.out.alloc (by omega) _).grown hgrow (by simp; omega) (fun k hk => (HO.out.lt k hk).1)); have HB4 := Lib.hid (show Below w.heap.size w w4 from HB1.out.trans (HB5.out.mono HB1.out.size)); clear hown' hgrow)
        go_roundw
        case rel => exact ⟨k + 1, by omega, by go_num, Lib.hid (by rw [HSN.out, HU.out]; exact HO4.out), HB4, HB5⟩
        case measure => simp [intOf]; omega
      · have HU := Lib.hid (show un1 r = [55296 + (r - 65536) / 1024, 56320 + r % 1024] by unfold un1; rw [if_neg h6, show (r - 65536) % 1024 = r % 1024 by omega])
        have h6' : (65536 : Int) ≤ r := by omega
        go_wp2_with (at_builtin; refine wpList_append_own _ rfl (.tmp 15) (.tmp 23) 87 rfl w1.heap.size 21 i0 (.int .i32 0) 1 4 Tryd.underlying87 hi hz0 hz1 hz2 rfl (by decide) _ _ _ rfl (World.ownsRow.alloc HO.out _) ⟨wr.heap.size, 0, none⟩ 2 2 ([55296 + (r - 65536) / 1024, 56320 + r % 1024].map (Value.int .i32)) rfl rfl (fun j u hj => by rw [Addr.add_lit, cell_of_row _ _ _ _ _ _ (heap_alloc_new _ _), Nat.zero_add, List.getElem?_toArray]; exact hj) (one_j _) (by unfold maxLen; omega) (by omega) (by simp; omega) ?_; intro v' w4 hown' hgrow _; have HO4 := Lib.hid (show OwnJ w4 w1.heap.size v' (D ++ [55296 + (r - 65536) / 1024, 56320 + r % 1024]) from own_app_j hown'); have HB5 := Lib.hid (show Below w1.heap.size w1 w4 from (HB'.out.alloc (by omega) _).grown hgrow (by simp; omega) (fun k hk => (HO.out.lt k hk).1)); have HB4 := Lib.hid (show Below w.heap.size w w4 from HB1.out.trans (HB5.out.mono HB1.out.size)); clear hown' hgrow)
        go_roundw
        case rel => exact ⟨k + 1, by omega, by go_num, Lib.hid (by rw [HSN.out, HU.out]; exact HO4.out), HB4, HB5⟩
        case measure => simp [intOf]; omega
    · have HF := Lib.hid (show unL (R.take k) = unL R by rw [List.take_of_length_le (by omega)])
      rw [HF.out] at HO
      go_wp2
      go_ret
      exact ⟨⟨_, rfl, own_base_j HO.out HB1.out.size⟩, HB.out⟩
theorem retB {a b : Bool} (h : a = b) : Ending.returned (.bool a) = Ending.returned (.bool b) := by rw [h]
set_option maxHeartbeats 2000000 in
set_option maxRecDepth 100000 in
/-- by keys: whether the units of one stand ahead of the other's -/
theorem rahead_is (a b : ByteArray) (A B : List Int) (hA : unL (U.runesZ a.data.toList) = A) (hB : unL (U.runesZ b.data.toList) = B) (ha : a.size ≤ 1048576) (hb : b.size ≤ 1048576) (w : World) :
    Calls Tryd.prog 42 #[.string a, .string b] w fun e w' => e = .returned (.bool (decide (cmpU A B < 0))) ∧ Below w.heap.size w w' := by
  have la : A.length ≤ 2097152 := by
    have h1 := un_len (U.runesZ a.data.toList)
    have h2 := (U.runes_count a.data.toList).1
    rw [len_list] at h2
    rw [hA] at h1; omega
  have lb : B.length ≤ 2097152 := by
    have h1 := un_len (U.runesZ b.data.toList)
    have h2 := (U.runes_count b.data.toList).1
    rw [len_list] at h2
    rw [hB] at h1; omega
  have HC1 := Lib.hid (fun W => runits_is a _ rfl ha W)
  have HC2 := Lib.hid (fun W => runits_is b _ rfl hb W)
  rw [hA] at HC1
  rw [hB] at HC2
  clear hA hB
  obtain ⟨n, hn⟩ : ∃ n, B.length = n := ⟨_, rfl⟩
  obtain ⟨m, hm⟩ : ∃ m, A.length = m := ⟨_, rfl⟩
  have HN := Lib.hid (And.intro hm hn)
  rw [hm] at la
  rw [hn] at lb
  clear hm hn
  go_enter Tryd.func42, Tryd.ntmps42
  go_wp2_with fail
  refine (HC1.out w).mono ?_
  rintro e w1 ⟨⟨v1, rfl, ho1⟩, hb1⟩
  have HB1 := Lib.hid hb1
  have HO1 := Lib.hid ho1
  clear ho1 hb1
  go_wp2_with fail
  refine (HC2.out w1).mono ?_
  rintro e w2 ⟨⟨v2, rfl, ho2⟩, hb2⟩
  have HB2 := Lib.hid (HB1.out.trans (hb2.mono HB1.out.size))
  obtain ⟨p1, d1, rfl, hc1⟩ := own_runes (Ks.own_to HO1.out hb2)
  obtain ⟨p2, d2, rfl, hc2⟩ := own_runes ho2
  have HX1 := Lib.hid hc1
  have HX2 := Lib.hid hc2
  clear ho2 hb2 HO1 hc1 hc2
  rw [HN.out.1, HN.out.2]
  go_wp2_with fail
  go_loopw [7] (fun i wr => ∃ k : Nat, k ≤ m ∧ k ≤ n ∧ i = .int .i64 k ∧ Hid (cmpU A B = cmpU (A.drop k) (B.drop k)) ∧ Hid (Below w2.heap.size w2 wr)) (fun i _ => m - (intOf i).toNat)
  case atStart => exact ⟨0, by omega, by omega, rfl, Lib.hid rfl, Lib.hid (Below.refl _ _)⟩
  case round =>
    obtain ⟨k, hk, hkn, rfl, HE, HB⟩ := hrel
    have HBW := Lib.hid (show Below w.heap.size w wr from HB2.out.trans (HB.out.mono HB2.out.size))
    by_cases hlt : k < m
    · have hlt' : k < A.length := by rw [HN.out.1]; exact hlt
      have i1 : (k : Int) < (m : Int) := by omega
      by_cases hlb : k < n
      · have hlb' : k < B.length := by rw [HN.out.2]; exact hlb
        have i2 : (k : Int) < (n : Int) := by omega
        obtain ⟨g, o, rfl, hg, hx⟩ := HX1.out k A[k] (List.getElem?_eq_getElem hlt')
        obtain ⟨g2, o2, rfl, hg2, hx2⟩ := HX2.out k B[k] (List.getElem?_eq_getElem hlb')
        have y1 := (HB.out.cell (p := ⟨g, o + k, none⟩) hg).trans hx
        have y2 := (HB.out.cell (p := ⟨g2, o2 + k, none⟩) hg2).trans hx2
        have HD := Lib.hid (cmpU_drop hlt' hlb')
        clear hx hx2
        generalize A[k] = x at *
        generalize B[k] = y at *
        clear hlt' hlb'
        by_cases hc : x = y
        · subst hc
          have HD2 := Lib.hid (show cmpU A B = cmpU (A.drop (k + 1)) (B.drop (k + 1)) by rw [HE.out, HD.out]; unfold cmpI; simp)
          go_wp2_with fail
          go_quiet (fail)
          go_wp2
          go_roundw
          case rel => exact ⟨k + 1, by omega, by omega, by go_num, HD2, Lib.hid (below_dn HB.out _)⟩
          case measure => simp [intOf]; omega
        · have HD2 := Lib.hid (show decide (cmpU A B < 0) = decide (x < y) by
            rw [HE.out, HD.out]; unfold cmpI
            by_cases h1 : x < y
            · rw [if_pos h1]; simp [h1]
            · have h2 : y < x := by omega
              rw [if_neg h1, if_pos h2]; simp [h1])
          have hcb : (x != y) = true := by simpa using hc
          by_cases h1 : x < y
          · have HD3 := Lib.hid (show decide (cmpU A B < 0) = true by rw [HD2.out]; simp [h1])
            go_wp2_with fail
            go_quiet (fail)
            go_wp2_with fail
            go_quiet (fail)
            go_wp2
            go_ret
            exact ⟨retB HD3.out.symm, below_dn (below_dn HBW.out _) _⟩
          · have HD3 := Lib.hid (show decide (cmpU A B < 0) = false by rw [HD2.out]; simp [h1])
            go_wp2_with fail
            go_quiet (fail)
            go_wp2_with fail
            go_quiet (fail)
            go_wp2
            go_ret
            exact ⟨retB HD2.out.symm, below_dn (below_dn HBW.out _) _⟩
      · have i3 : ¬ (k : Int) < (n : Int) := by omega
        have hkn : k = n := by omega
        subst hkn
        have HC := Lib.hid (show decide (cmpU A B < 0) = false by rw [HE.out, cmpU_left hlt' (by rw [HN.out.2]; exact hlb)]; decide)
        have i4 : ¬ m < k := by omega
        have i5 : decide ((m : Int) < (k : Int)) = false := by simp; omega
        go_wp2
        go_ret
        exact ⟨retB HC.out.symm, HBW.out⟩
    · have HC := Lib.hid (show cmpU A B = if k < n then -1 else 0 by rw [HE.out, cmpU_right (by rw [HN.out.1]; exact hlt), HN.out.2])
      have hkm : k = m := by omega
      subst hkm
      by_cases hlb : k < n
      · have i3 : (k : Int) < (n : Int) := by omega
        have HC2 := Lib.hid (show decide (cmpU A B < 0) = true by rw [HC.out, if_pos hlb]; decide)
        go_wp2
        go_ret
        exact ⟨retB HC2.out.symm, HBW.out⟩
      · have i3 : ¬ (k : Int) < (n : Int) := by omega
        have HC2 := Lib.hid (show decide (cmpU A B < 0) = false by rw [HC.out, if_neg hlb]; decide)
        go_wp2
        go_ret
        exact ⟨retB HC2.out.symm, HBW.out⟩
end Go.Proofs.YtnjnhgeafbofkaaDoor
