import Derived.Test.YtflddokngplgiaaDoorA20M
namespace Go.Proofs.YtflddokngplgiaaDoor
open Go.RowKit
theorem size26 : (Tryd.prog.info? 26).map (·.size) = some 1 := by
  obtain ⟨i0, hi, hz0, hz1, hz2⟩ := info_parts info26
  rw [hi]; simp [hz1]
theorem u16_one (l : List Nat) : ∀ u ∈ l.map u16V, u.oneCell' = true := by
  intro u hu
  obtain ⟨x, _, rfl⟩ := List.mem_map.1 hu
  rfl
theorem own_cells {w : World} {B : Nat} {v : Value} {xs : List Nat} (h : w.ownsRow B 26 1 v xs.length (xs.map u16V)) : (xs = [] ∧ ∃ a n c, v = .slice a n c ∧ n = 0) ∨ ∃ g c, v = .slice (some ⟨g, 0, none⟩) xs.length c ∧ ∀ j u, (xs.map u16V)[j]? = some u → w.cell? ⟨g, j, none⟩ = some u := by
  rcases h.2 with ⟨rfl, hn⟩ | ⟨g, cap, cur, rfl, hB, hg, hc, _, _, ht⟩
  · exact .inl ⟨List.eq_nil_of_length_eq_zero hn, _, _, _, rfl, rfl⟩
  · refine .inr ⟨g, cap, rfl, fun j u hj => ?_⟩
    have hjl := (List.getElem?_eq_some_iff.1 hj).1
    rw [h.cellAt j (by simpa using hjl)]
    exact hj
/-- copy of pieces into an array of the call's own -/
theorem copy_arr (g l : Nat) (cs xs : List Nat) (hcs : cs.length = 8) (W : World) (hH : Has W g (.cells (A8 cs) 27)) (B : Nat) (v : Value) (hv : W.ownsRow B 26 1 v xs.length (xs.map u16V)) (hl : l + xs.length ≤ 8) :
    ∃ W', (Builtin.copy_ #[49, 49] 3 #[arrS g l 8, v]).run Tryd.prog W = .ok (.int .i64 xs.length) W' ∧ Hid (Has W' g (.cells (A8 (cs.take l ++ xs ++ cs.drop (l + xs.length))) 27) ∧ (∀ k o, k ≠ g → Has W k o → Has W' k o) ∧ (∀ B0, B0 ≤ g → Below B0 W W')) := by
  rcases own_cells hv with ⟨rfl, a, n, c, rfl, rfl⟩ | ⟨g2, c, rfl, hc⟩
  · refine ⟨W, ?_, Lib.hid ⟨by simpa using hH, fun k o _ h => h, fun B0 _ => Below.refl _ _⟩⟩
    unfold arrS
    exact run_copy_none W 49 49 3 26 _ _ _ _ _ _ Tryd.underlying49 size26 (by simp)
  · by_cases h0 : xs.length = 0
    · have hx := List.length_eq_zero_iff.1 h0
      subst hx
      refine ⟨W, ?_, Lib.hid ⟨by simpa using hH, fun k o _ h => h, fun B0 _ => Below.refl _ _⟩⟩
      unfold arrS
      exact run_copy_none W 49 49 3 26 _ _ _ _ _ _ Tryd.underlying49 size26 (by simp)
    · have e : arrS g l 8 = .slice (some ⟨g, l, none⟩) (8 - l) (8 - l) := by unfold arrS; rw [if_neg (by omega)]
      have hcz : (A8 cs).size = 8 := by rw [A8_size, hcs]
      refine ⟨W.setCells g l (xs.map u16V), ?_, Lib.hid ⟨?_, fun k o hk h => has_setCells_far _ _ _ h hk, fun B0 hB => bel_setCells _ _ _ (Below.refl _ _) hB⟩⟩
      · rw [e]
        have := run_copy_cells (P := Tryd.prog) W 49 49 3 26 g l (8 - l) (8 - l) ⟨g2, 0, none⟩ xs.length c (xs.map u16V) Tryd.underlying49 size26 (by rw [List.length_map]; exact (Nat.min_eq_left (by omega)).symm) (fun j u hj => by rw [add0, Nat.zero_add]; exact hc j u hj)
          (fun j hj => by rw [hH.cell (l + j) (Array.getElem?_eq_getElem (by rw [List.length_map] at hj; omega))]; rfl) (fun j hj => hH.free _) (u16_one xs)
        rw [List.length_map] at this
        exact this
      · have := has_setCells (xs.map u16V) l W (A8 cs) hH (by rw [List.length_map]; omega)
        have e2 : ((A8 cs).toList.take l ++ xs.map u16V ++ (A8 cs).toList.drop (l + (xs.map u16V).length)).toArray = A8 (cs.take l ++ xs ++ cs.drop (l + xs.length)) := by
          simp [A8, u16V]
        rw [e2] at this
        exact this
theorem Z8_one : Z8.all (·.oneCell') = true := A8_one [0, 0, 0, 0, 0, 0, 0, 0]
def zer8 : List Nat := [0, 0, 0, 0, 0, 0, 0, 0]
/-- an address of which some pieces are left out -/
def shortP (a b : List UInt8) : Option (List Nat) := match pcs a with
  | none => none
  | some x => match pcs (mixL b) with
    | none => none
    | some y => if x.length + y.length ≤ 7 then some (x ++ List.replicate (8 - x.length - y.length) 0 ++ y) else none
/-- an array and a bool -/
def arrB (o : Option (List Nat)) : Ending := match o with
  | none => .returned (.tuple #[.agg Z8, .bool false])
  | some l => .returned (.tuple #[.agg (A8 l), .bool true])
theorem results_arr {fn : Func} {p q : Tmp} (h : fn.results = #[.cell p 27, .tmp q]) (tmps : Array Value) (w : World) (g : Nat) (cs : Array Value)
    (hp : tmps.getD p undef = .pointer (some ⟨g, 0, none⟩)) (hg : Has w g (.cells cs 27)) (hi : cs.size = 8) :
    (results fn tmps).run Tryd.prog w = .ok (.tuple #[.agg cs, tmps.getD q undef]) w := by
  have hp' : tmps[p]?.getD undef = .pointer (some ⟨g, 0, none⟩) := by simpa using hp
  simp [results, h, hp', asAddr, run_loadVar_row w g 27 27 cs (0, 0) _ hg Tryd.underlying27 rfl (by rw [hi]; exact info27)]
theorem mix_len (l : List UInt8) : (mixL l).length ≤ l.length + 10 := by
  unfold mixL
  split
  · rename_i n hv
    split
    · have hn := v4O_lt hv
      have h1 := txtP_len [n / 65536, n % 65536] (fun x hx => by simp at hx; omega)
      have h2 := List.length_take_le (l.length - (lastP 58 l).length) l
      rw [List.length_append]
      simp only [List.length_cons, List.length_nil] at h1
      omega
    · omega
  · omega
set_option maxHeartbeats 8000000 in
set_option maxRecDepth 100000 in
theorem short_no1 (a b : ByteArray) (ha : a.size ≤ 500) (w : World) (hG : Glob w) (h : pcs a.data.toList = none) :
    Calls Tryd.prog 42 #[.string a, .string b] w fun e w' => e = arrB none ∧ Below w.heap.size w w' := by
  have HC := Lib.hid (pieces_is a (by omega) _ (hG.to (bnew w (.cells Z8 27))))
  have HP := Lib.hid h
  clear hG h
  go_enter Tryd.func42, Tryd.ntmps42
  go_wp2_with fail
  refine HC.out.mono ?_
  rintro e w1 ⟨he, hb⟩
  rw [HP.out] at he
  subst he
  have hH := Has.to (Has.new w (.cells Z8 27)) hb
  have HB := Lib.hid (bel2 (bnew w (.cells Z8 27)) hb)
  have HH := Lib.hid hH
  clear hb hH
  go_wp2_with (refine wpList_store_row rfl 27 (.tmp 4) (.tmp 17) rfl w.heap.size Z8 rfl rfl 27 Z8 HH.out info27 rfl Z8_one ?_)
  exact bodyPost_ret (results_arr rfl _ _ w.heap.size Z8 rfl (setRow_heap _ _ _ _ 27 (0, 0) HH.out) rfl) rfl ⟨rfl, below_setRow HB.out (Nat.le_refl _) _⟩
theorem mix_size (b : ByteArray) (hb : b.size ≤ 500) : (⟨(mixL b.data.toList).toArray⟩ : ByteArray).size ≤ 1000 := by
  have h1 := mix_len b.data.toList
  have e : (⟨(mixL b.data.toList).toArray⟩ : ByteArray).size = (mixL b.data.toList).length := by simp [ByteArray.size]
  rw [len_list] at h1
  rw [e]; omega
end Go.Proofs.YtflddokngplgiaaDoor
namespace Go.Proofs.YtflddokngplgiaaDoor
open Go.RowKit
theorem own_slice {w : World} {B : Nat} {v : Value} {n : Nat} {xs : List Value} (h : w.ownsRow B 26 1 v n xs) : ∃ p c, v = .slice p n c := by
  rcases h.2 with ⟨rfl, hn⟩ | ⟨g, cap, cur, rfl, _⟩
  · exact ⟨_, _, by rw [hn]⟩
  · exact ⟨_, _, rfl⟩
theorem pcs_len {l : List UInt8} {x : List Nat} (h : pcs l = some x) : x.length ≤ l.length + 1 := by
  unfold pcs at h
  split at h
  · cases h; simp
  · split at h
    · cases h; rw [List.length_map]; exact partsAt_count 58 l
    · cases h
theorem short_list (x y : List Nat) (h7 : x.length + y.length ≤ 7) : List.take (8 - y.length) (zer8.take 0 ++ x ++ zer8.drop (0 + x.length)) ++ y ++ List.drop (8 - y.length + y.length) (zer8.take 0 ++ x ++ zer8.drop (0 + x.length)) = x ++ List.replicate (8 - x.length - y.length) 0 ++ y := by
  have e : zer8 = List.replicate 8 0 := rfl
  rw [e, List.take_zero, List.nil_append, Nat.zero_add, List.drop_replicate, show 8 - y.length + y.length = 8 by omega]
  rw [List.take_append, List.take_of_length_le (by omega), List.take_replicate, List.drop_of_length_le (by simp; omega), List.append_nil]
  congr 3
  omega
set_option maxHeartbeats 8000000 in
set_option maxRecDepth 100000 in
theorem short_no2 (a b : ByteArray) (ha : a.size ≤ 500) (hb : b.size ≤ 500) (w : World) (hG : Glob w) (x : List Nat) (hx : pcs a.data.toList = some x) (hy : pcs (mixL b.data.toList) = none) :
    Calls Tryd.prog 42 #[.string a, .string b] w fun e w' => e = arrB none ∧ Below w.heap.size w w' := by
  have HC := Lib.hid (pieces_is a (by omega) _ (hG.to (bnew w (.cells Z8 27))))
  have HM := Lib.hid (fun W hW => mixed_is b (by omega) W hW)
  have HQ := Lib.hid (fun W hW => pieces_is ⟨(mixL b.data.toList).toArray⟩ (mix_size b hb) W hW)
  have HG := Lib.hid hG
  have HX := Lib.hid hx
  have HY := Lib.hid hy
  clear hG hx hy
  go_enter Tryd.func42, Tryd.ntmps42
  go_wp2_with fail
  refine HC.out.mono ?_
  rintro e w1 ⟨he, hb1⟩
  rw [HX.out] at he
  obtain ⟨v1, rfl, ho1⟩ := he
  obtain ⟨p1, c1, rfl⟩ := own_slice ho1
  have HO1 := Lib.hid ho1
  have HB1 := Lib.hid (bel2 (bnew w (.cells Z8 27)) hb1)
  have HH1 := Lib.hid (Has.to (Has.new w (.cells Z8 27)) hb1)
  clear hb1 ho1
  go_wp2_with fail
  refine (HM.out _ (HG.out.to HB1.out)).mono ?_
  rintro e w2 ⟨rfl, hb2⟩
  have HB2 := Lib.hid (bel2 HB1.out hb2)
  have HH2 := Lib.hid (HH1.out.to hb2)
  have HO2 := Lib.hid (own_to HO1.out hb2)
  clear hb2
  go_wp2_with fail
  refine (HQ.out _ (HG.out.to HB2.out)).mono ?_
  rintro e w3 ⟨he, hb3⟩
  rw [HY.out] at he
  subst he
  have HB3 := Lib.hid (bel2 HB2.out hb3)
  have HH := Lib.hid (HH2.out.to hb3)
  clear hb3
  go_wp2_with (refine wpList_store_row rfl 27 (.tmp 4) (.tmp 34) rfl w.heap.size Z8 rfl rfl 27 Z8 HH.out info27 rfl Z8_one ?_)
  exact bodyPost_ret (results_arr rfl _ _ w.heap.size Z8 rfl (setRow_heap _ _ _ _ 27 (0, 0) HH.out) rfl) rfl ⟨rfl, below_setRow HB3.out (Nat.le_refl _) _⟩
set_option maxHeartbeats 8000000 in
set_option maxRecDepth 100000 in
theorem short_no3 (a b : ByteArray) (ha : a.size ≤ 500) (hb : b.size ≤ 500) (w : World) (hG : Glob w) (x : List Nat) (hx : pcs a.data.toList = some x) (y : List Nat) (hy : pcs (mixL b.data.toList) = some y) (h7 : ¬ x.length + y.length ≤ 7) :
    Calls Tryd.prog 42 #[.string a, .string b] w fun e w' => e = arrB none ∧ Below w.heap.size w w' := by
  have HC := Lib.hid (pieces_is a (by omega) _ (hG.to (bnew w (.cells Z8 27))))
  have HM := Lib.hid (fun W hW => mixed_is b (by omega) W hW)
  have HQ := Lib.hid (fun W hW => pieces_is ⟨(mixL b.data.toList).toArray⟩ (mix_size b hb) W hW)
  have HG := Lib.hid hG
  have HX := Lib.hid hx
  have HY := Lib.hid hy
  have hl1 := pcs_len hx
  have hl2 := pcs_len hy
  have hl3 := mix_len b.data.toList
  rw [len_list] at hl1 hl3
  have h7i : 7 < (x.length : Int) + (y.length : Int) := by omega
  have hxl : x.length ≤ 1000 := by omega
  have hyl : y.length ≤ 1000 := by omega
  clear hl1 hl2 hl3 h7
  clear hG hx hy
  go_enter Tryd.func42, Tryd.ntmps42
  go_wp2_with fail
  refine HC.out.mono ?_
  rintro e w1 ⟨he, hb1⟩
  rw [HX.out] at he
  obtain ⟨v1, rfl, ho1⟩ := he
  obtain ⟨p1, c1, rfl⟩ := own_slice ho1
  have HO1 := Lib.hid ho1
  have HB1 := Lib.hid (bel2 (bnew w (.cells Z8 27)) hb1)
  have HH1 := Lib.hid (Has.to (Has.new w (.cells Z8 27)) hb1)
  clear hb1 ho1
  go_wp2_with fail
  refine (HM.out _ (HG.out.to HB1.out)).mono ?_
  rintro e w2 ⟨rfl, hb2⟩
  have HB2 := Lib.hid (bel2 HB1.out hb2)
  have HH2 := Lib.hid (HH1.out.to hb2)
  have HO2 := Lib.hid (own_to HO1.out hb2)
  clear hb2
  go_wp2_with fail
  refine (HQ.out _ (HG.out.to HB2.out)).mono ?_
  rintro e w3 ⟨he, hb3⟩
  rw [HY.out] at he
  obtain ⟨v3, rfl, ho3⟩ := he
  obtain ⟨p3, c3, rfl⟩ := own_slice ho3
  clear ho3
  have HB3 := Lib.hid (bel2 HB2.out hb3)
  have HH := Lib.hid (HH2.out.to hb3)
  clear hb3
  go_wp2_with (refine wpList_store_row rfl 27 (.tmp 4) (.tmp 34) rfl w.heap.size Z8 rfl rfl 27 Z8 HH.out info27 rfl Z8_one ?_)
  exact bodyPost_ret (results_arr rfl _ _ w.heap.size Z8 rfl (setRow_heap _ _ _ _ 27 (0, 0) HH.out) rfl) rfl ⟨rfl, below_setRow HB3.out (Nat.le_refl _) _⟩
set_option maxHeartbeats 8000000 in
set_option maxRecDepth 100000 in
theorem short_yes (a b : ByteArray) (ha : a.size ≤ 500) (hb : b.size ≤ 500) (w : World) (hG : Glob w) (x : List Nat) (hx : pcs a.data.toList = some x) (y : List Nat) (hy : pcs (mixL b.data.toList) = some y) (h7 : x.length + y.length ≤ 7) (R : List Nat) (hR : R = x ++ List.replicate (8 - x.length - y.length) 0 ++ y) :
    Calls Tryd.prog 42 #[.string a, .string b] w fun e w' => e = arrB (some R) ∧ Below w.heap.size w w' := by
  have HC := Lib.hid (pieces_is a (by omega) _ (hG.to (bnew w (.cells Z8 27))))
  have HM := Lib.hid (fun W hW => mixed_is b (by omega) W hW)
  have HQ := Lib.hid (fun W hW => pieces_is ⟨(mixL b.data.toList).toArray⟩ (mix_size b hb) W hW)
  have HG := Lib.hid hG
  have HX := Lib.hid hx
  have HY := Lib.hid hy
  have HRR := Lib.hid hR
  clear hG hx hy hR
  go_enter Tryd.func42, Tryd.ntmps42
  go_wp2_with fail
  refine HC.out.mono ?_
  rintro e w1 ⟨he, hb1⟩
  rw [HX.out] at he
  obtain ⟨v1, rfl, ho1⟩ := he
  obtain ⟨p1, c1, rfl⟩ := own_slice ho1
  have HO1 := Lib.hid ho1
  have HB1 := Lib.hid (bel2 (bnew w (.cells Z8 27)) hb1)
  have HH1 := Lib.hid (Has.to (Has.new w (.cells Z8 27)) hb1)
  clear hb1 ho1
  go_wp2_with fail
  refine (HM.out _ (HG.out.to HB1.out)).mono ?_
  rintro e w2 ⟨rfl, hb2⟩
  have HB2 := Lib.hid (bel2 HB1.out hb2)
  have HH2 := Lib.hid (HH1.out.to hb2)
  have HO2 := Lib.hid (own_to HO1.out hb2)
  clear hb2
  go_wp2_with fail
  refine (HQ.out _ (HG.out.to HB2.out)).mono ?_
  rintro e w3 ⟨he, hb3⟩
  rw [HY.out] at he
  obtain ⟨v3, rfl, ho3⟩ := he
  obtain ⟨p3, c3, rfl⟩ := own_slice ho3
  have HB3 := Lib.hid (bel2 HB2.out hb3)
  have HH3 := Lib.hid (HH2.out.to hb3)
  have HO3 := Lib.hid (own_to HO2.out hb3)
  have HP3 := Lib.hid ho3
  clear hb3 ho3
  have h7i : (x.length : Int) + (y.length : Int) ≤ 7 := by omega
  have h4 : Has (w3.alloc (.cells Z8 27)) w3.heap.size (.cells (A8 zer8) 27) := Has.new w3 _
  obtain ⟨w4, k4, HW4⟩ := copy_arr w3.heap.size 0 zer8 x rfl _ h4 _ _ (World.ownsRow.alloc HO3.out (.cells Z8 27)) (by omega)
  have h5 := HW4.out.1
  have hb4 : Below w3.heap.size w3 w4 := (bnew w3 (.cells Z8 27)).trans (HW4.out.2.2 w3.heap.size (Nat.le_refl _))
  have hl5 : (zer8.take 0 ++ x ++ zer8.drop (0 + x.length)).length = 8 := by simp [zer8]; omega
  have HP4 := own_to HP3.out hb4
  obtain ⟨w5, k5, HW5⟩ := copy_arr w3.heap.size (8 - y.length) _ y hl5 w4 h5 _ _ HP4 (by omega)
  have ksl := slice8_all w3.heap.size
  have ksr := slice8_l w3.heap.size (8 - y.length) (by omega)
  have hb5 : Below w.heap.size w w5 := (HB3.out.trans (hb4.mono HB3.out.size)).trans (HW5.out.2.2 _ HB3.out.size)
  have HB5 := Lib.hid hb5
  have HR := Lib.hid (show Has w5 w.heap.size (.cells Z8 27) from HW5.out.2.1 _ _ (by have := HH3.out.lt; omega) (HH3.out.to hb4))
  clear h4 h5 hb4 HP4 hb5
  have hl6 : (List.take (8 - y.length) (zer8.take 0 ++ x ++ zer8.drop (0 + x.length)) ++ y ++ List.drop (8 - y.length + y.length) (zer8.take 0 ++ x ++ zer8.drop (0 + x.length))) = x ++ List.replicate (8 - x.length - y.length) 0 ++ y := short_list x y h7
  have HF := Lib.hid (show Has w5 w3.heap.size (.cells (A8 R) 27) by rw [HRR.out, ← hl6]; exact HW5.out.1)
  have hle : (A8 R).size = 8 := by rw [A8_size, HRR.out]; simp; omega
  have HLE := Lib.hid hle
  have hsub : ((8 - y.length : Nat) : Int) = 8 - (y.length : Int) := by omega
  rw [hsub] at ksr
  clear hl5 hl6 hle hsub
  go_wp2_with (first
    | (refine wpList_load_row rfl 27 (.tmp 9) rfl w3.heap.size rfl 27 _ (0, 0) _ HF.out Tryd.underlying27 rfl (by rw [HLE.out]; exact info27) ?_)
    | (refine wpList_store_row rfl 27 (.tmp 4) (.tmp 44) rfl w.heap.size _ rfl rfl 27 Z8 HR.out (by rw [HLE.out]; exact info27) (by rw [HLE.out]; rfl) (A8_one _) ?_))
  exact bodyPost_ret (results_arr rfl _ _ w.heap.size _ rfl (setRow_heap _ _ _ _ 27 (0, 0) HR.out) HLE.out) rfl ⟨rfl, below_setRow HB5.out (Nat.le_refl _) _⟩
theorem short_is (a b : ByteArray) (ha : a.size ≤ 500) (hb : b.size ≤ 500) (w : World) (hG : Glob w) :
    Calls Tryd.prog 42 #[.string a, .string b] w fun e w' => e = arrB (shortP a.data.toList b.data.toList) ∧ Below w.heap.size w w' := by
  unfold shortP
  rcases hx : pcs a.data.toList with _ | x
  · exact short_no1 a b ha w hG hx
  · rcases hy : pcs (mixL b.data.toList) with _ | y
    · exact short_no2 a b ha hb w hG x hx hy
    · by_cases h7 : x.length + y.length ≤ 7
      · simp only [if_pos h7]
        exact short_yes a b ha hb w hG x hx y hy h7 _ rfl
      · simp only [if_neg h7]
        exact short_no3 a b ha hb w hG x hx y hy h7
end Go.Proofs.YtflddokngplgiaaDoor
