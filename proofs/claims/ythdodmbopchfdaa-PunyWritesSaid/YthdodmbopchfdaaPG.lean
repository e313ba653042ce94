import Derived.Test.YthdodmbopchfdaaPR
namespace Go.Proofs.Ythdodmbopchfdaa
open Go.RowKit P
theorem lt_take (l : List Int) (k : Nat) (h : k < l.length) (n : Int) : lt n (l.take (k + 1)) = lt n (l.take k) ++ if l[k] < n then [l[k]] else [] := by
  unfold lt
  rw [take_snoc l k h, List.filter_append, List.filter_cons, List.filter_nil]
  simp only [decide_eq_true_eq]
/-- the runes below 128, and a hyphen behind them -/
def baseOf (l : List Int) : List Int := lt 128 l ++ if lt 128 l = [] then [] else [45]
set_option maxRecDepth 100000 in
set_option maxHeartbeats 4000000 in
theorem begin_is (l base : List Int) (p : Nat) (va : Value) (hl : l.length ≤ 4096) (hwf : ∀ x ∈ l, 0 ≤ x ∧ x ≤ 1114111) (hbase : baseOf l = base) (hp : (lt 128 l).length = p) (w : World) (hA : RunesAt w va l) :
    Calls Try.prog 14 #[va] w fun e w' => ∃ g, e = .returned (.pointer (some ⟨g, 0, none⟩)) ∧ Wr w.heap.size g base 128 0 72 p p w' ∧ Below w.heap.size w w' := by
  obtain ⟨i0, hi, hz0, hz1, hz2⟩ := info_parts infoByte0
  obtain ⟨pa, ca, rfl, hC⟩ := id hA
  have HC := Lib.hid hC
  have HW := Lib.hid hwf
  have HBs := Lib.hid hbase
  have HP := Lib.hid hp
  have hpl : p ≤ 4096 := by have := lt_len_le 128 l; omega
  clear hC hA hwf hbase hp
  have hG0 : Has (w.alloc (.cells (WC (.slice none 0 0) 128 0 72 0 0) 37)) w.heap.size (.cells (WC (.slice none 0 0) 128 0 72 0 0) 37) := Has.new w _
  have HG0 := Lib.hid hG0
  clear hG0
  go_enter Try.func14, Try.ntmps14
  go_wp2_with fail
  go_loopw [10] (fun i wr => ∃ (k : Nat) (pre : List Int), k ≤ l.length ∧ i = .int .i64 k ∧ pre.length ≤ k ∧ Hid (lt 128 (l.take k) = pre) ∧ Hid (Wr w.heap.size w.heap.size pre 128 0 72 0 0 wr) ∧ Below w.heap.size w wr) (fun i _ => l.length - (intOf i).toNat)
  case atStart =>
    exact ⟨0, [], by omega, rfl, by simp, Lib.hid rfl, Lib.hid ⟨Nat.le_refl _, .slice none 0 0, HG0.out, World.ownsRow_nil _ _ _ _⟩, bnew w _⟩
  case round =>
    clear HG0
    obtain ⟨k, pre, hk, rfl, hpk, HPre, HWk, hbel⟩ := hrel
    obtain ⟨w9, rfl⟩ : ∃ w9 : World, w9 = wr := ⟨_, rfl⟩
    have hsz9 := hbel.size
    obtain ⟨_, v, hG, hO⟩ := HWk.out
    obtain ⟨pv, cv, rfl⟩ := hO.form
    have hgl := hG.lt
    by_cases hlt : k < l.length
    · obtain ⟨g', o', rfl, hg', hx⟩ := HC.out k l[k] (get_some hlt)
      have hx2 := (hbel.cell (p := ⟨g', o' + k, none⟩) hg').trans hx
      have hw := HW.out l[k] (List.getElem_mem hlt)
      have HT := Lib.hid (lt_take l k hlt 128)
      generalize l[k] = r at *
      clear hx
      by_cases hr : r < 128
      · have HT2 : Hid (lt 128 (l.take (k + 1)) = pre ++ [r]) := Lib.hid (by rw [HT.out, if_pos hr, HPre.out])
        have c0 : w9.cell? ⟨w.heap.size, 0, none⟩ = some (.slice pv pre.length cv) := hG.cell 0 rfl
        have hax := Has.alloc hG (.cells #[.int .u8 r] 5)
        have HNE := Lib.hid (own_ne (hO.alloc (.cells #[.int .u8 r] 5)) hax (by decide))
        have HAX := Lib.hid hax
        have HO := Lib.hid hO
        have HB9 := Lib.hid hbel
        clear hax hO hG HT
        go_wp2_with (at_builtin; refine wpList_append_own _ rfl _ _ 35 rfl w.heap.size 5 i0 (.int .u8 0) 1 1 Try.underlying35 hi hz0 hz1 hz2 rfl (by decide) _ _ _ rfl (HO.out.alloc _) ⟨w9.heap.size, 0, none⟩ 1 1 [.int .u8 r] rfl rfl (by exact lit8 w9 r) (one8 r) (by unfold maxLen; omega) (by omega) (by first | omega | (simp; omega)) ?_; intro v3 w3 hown3 hgrow3 _; have HG3 : Hid (Has w3 w.heap.size (.cells (WC (.slice pv pre.length cv) 128 0 72 0 0) 37)) := Lib.hid (has_past (v := .slice pv pre.length cv) HAX.out hgrow3 HNE.out); have HO3 : Hid (OwnB w3 w.heap.size v3 (pre ++ [r])) := Lib.hid (ownb_snoc hown3); have HB3 : Hid (Below w.heap.size w w3) := Lib.hid (belb_grown (v := .slice pv pre.length cv) (HB9.out.alloc (by first | omega | (simp; omega)) _) (HO.out.alloc _) hgrow3 (by first | omega | (simp; omega))); clear hown3 hgrow3; have k0 : w3.cell? ⟨w.heap.size, 0, none⟩ = some (.slice pv pre.length cv) := HG3.out.cell 0 rfl; have fz0 := HG3.out.free 0; obtain ⟨p3, cap3, rfl⟩ := HO3.out.form)
        have e9 : Value.slice p3 (pre ++ [r]).length cap3 = .slice p3 (pre.length + 1) cap3 := by simp
        have HO5 := HO3.out
        rw [e9] at HO5
        have HGn := HG3.out.set 0 (.slice p3 (pre.length + 1) cap3)
        have HOn := own_set HO5 HG3.out (by decide) 0 (.slice p3 (pre.length + 1) cap3)
        have HBn := HB3.out.setCell (p := ⟨w.heap.size, 0, none⟩) (Nat.le_refl _) (.slice p3 (pre.length + 1) cap3)
        exact ⟨⟨k + 1, pre ++ [r], by omega, by go_num, by simp; omega, HT2, Lib.hid ⟨Nat.le_refl _, _, HGn, HOn⟩, HBn⟩, by simp [intOf]; omega⟩
      · have HT2 : Hid (lt 128 (l.take (k + 1)) = pre) := Lib.hid (by rw [HT.out, if_neg hr, List.append_nil, HPre.out])
        clear HT hG hO
        go_wp2
        exact ⟨⟨k + 1, pre, by omega, by go_num, by omega, HT2, HWk, hbel⟩, by simp [intOf]; omega⟩
    · have HF : Hid (lt 128 l = pre) := Lib.hid (by have := HPre.out; rwa [List.take_of_length_le (by omega)] at this)
      have hpp : pre.length = p := by rw [← HP.out, HF.out]
      have c0 : w9.cell? ⟨w.heap.size, 0, none⟩ = some (.slice pv p cv) := by rw [← hpp]; exact hG.cell 0 rfl
      have fz5 := hG.free 5
      have fz4 := hG.free 4
      have e5 := (hG.set 5 (.int .i64 p))
      have e4 := e5.set 4 (.int .i64 p)
      have c0x : ((w9.setCell ⟨w.heap.size, 5, none⟩ (.int .i64 p)).setCell ⟨w.heap.size, 4, none⟩ (.int .i64 p)).cell? ⟨w.heap.size, 0, none⟩ = some (.slice pv p cv) := by rw [← hpp]; rw [← hpp] at e4; exact e4.cell 0 rfl
      have c5a : (w9.setCell ⟨w.heap.size, 5, none⟩ (.int .i64 p)).cell? ⟨w.heap.size, 5, none⟩ = some (.int .i64 p) := e5.cell 5 rfl
      have c5b : ((w9.setCell ⟨w.heap.size, 5, none⟩ (.int .i64 p)).setCell ⟨w.heap.size, 4, none⟩ (.int .i64 p)).cell? ⟨w.heap.size, 5, none⟩ = some (.int .i64 p) := e4.cell 5 rfl
      have c5 : w9.cell? ⟨w.heap.size, 5, none⟩ = some (.int .i64 0) := hG.cell 5 rfl
      have c4 : w9.cell? ⟨w.heap.size, 4, none⟩ = some (.int .i64 0) := hG.cell 4 rfl
      have c4a : (w9.setCell ⟨w.heap.size, 5, none⟩ (.int .i64 p)).cell? ⟨w.heap.size, 4, none⟩ = some (.int .i64 0) := e5.cell 4 rfl
      have fz4a := e5.free 4
      have HE4 : Hid (Has ((w9.setCell ⟨w.heap.size, 5, none⟩ (.int .i64 p)).setCell ⟨w.heap.size, 4, none⟩ (.int .i64 p)) w.heap.size (.cells (WC (.slice pv pre.length cv) 128 0 72 p p) 37)) := Lib.hid e4
      have HO4 : Hid (OwnB ((w9.setCell ⟨w.heap.size, 5, none⟩ (.int .i64 p)).setCell ⟨w.heap.size, 4, none⟩ (.int .i64 p)) w.heap.size (.slice pv pre.length cv) pre) := Lib.hid (own_set (own_set hO hG (by decide) 5 (.int .i64 p)) e5 (by decide) 4 (.int .i64 p))
      have HB4 : Hid (Below w.heap.size w ((w9.setCell ⟨w.heap.size, 5, none⟩ (.int .i64 p)).setCell ⟨w.heap.size, 4, none⟩ (.int .i64 p))) := Lib.hid ((hbel.setCell (p := ⟨w.heap.size, 5, none⟩) (Nat.le_refl _) _).setCell (p := ⟨w.heap.size, 4, none⟩) (Nat.le_refl _) _)
      clear hG hO e5 e4 hbel
      by_cases hp0 : p = 0
      · have HBase : Hid (base = pre) := Lib.hid (by
          rw [← HBs.out]; unfold baseOf
          rw [HF.out, if_pos (List.eq_nil_of_length_eq_zero (by omega)), List.append_nil])
        have hp1 : p ≤ 0 := by omega
        have HPP := Lib.hid hpp
        clear hp0 hpp
        go_wp2
        go_ret
        exact ⟨_, rfl, ⟨Nat.le_refl _, _, HE4.out, by rw [HBase.out]; exact HO4.out⟩, HB4.out⟩
      · have HBase : Hid (base = pre ++ [45]) := Lib.hid (by
          rw [← HBs.out]; unfold baseOf
          rw [HF.out, if_neg (fun e => hp0 (by rw [← hpp, e]; rfl))])
        have hp1 : 0 < p := by omega
        have hax := Has.alloc HE4.out (.cells #[.int .u8 45] 5)
        have HNE := Lib.hid (own_ne (HO4.out.alloc (.cells #[.int .u8 45] 5)) hax (by decide))
        have HAX := Lib.hid hax
        clear hax
        subst hpp
        go_wp2_with (at_builtin; refine wpList_append_own _ rfl _ _ 35 rfl w.heap.size 5 i0 (.int .u8 0) 1 1 Try.underlying35 hi hz0 hz1 hz2 rfl (by decide) _ _ _ rfl (HO4.out.alloc _) ⟨w9.heap.size, 0, none⟩ 1 1 [.int .u8 45] rfl rfl (by first | exact lit8 _ 45 | (have := lit8 ((w9.setCell ⟨w.heap.size, 5, none⟩ (.int .i64 pre.length)).setCell ⟨w.heap.size, 4, none⟩ (.int .i64 pre.length)) 45; simpa using this)) (one8 45) (by unfold maxLen; omega) (by omega) (by first | omega | (simp; omega)) ?_; intro v3 w3 hown3 hgrow3 _; have HG3 : Hid (Has w3 w.heap.size (.cells (WC (.slice pv pre.length cv) 128 0 72 pre.length pre.length) 37)) := Lib.hid (has_past (v := .slice pv pre.length cv) HAX.out hgrow3 HNE.out); have HO3 : Hid (OwnB w3 w.heap.size v3 (pre ++ [45])) := Lib.hid (ownb_snoc hown3); have HB3 : Hid (Below w.heap.size w w3) := Lib.hid (belb_grown (v := .slice pv pre.length cv) (HB4.out.alloc (by first | omega | (simp; omega)) _) (HO4.out.alloc _) hgrow3 (by first | omega | (simp; omega))); clear hown3 hgrow3; have k0 : w3.cell? ⟨w.heap.size, 0, none⟩ = some (.slice pv pre.length cv) := HG3.out.cell 0 rfl; have fz0 := HG3.out.free 0; obtain ⟨p3, cap3, rfl⟩ := HO3.out.form)
        go_ret
        have e9 : Value.slice p3 (pre ++ [45]).length cap3 = .slice p3 (pre.length + 1) cap3 := by simp
        have HO5 := HO3.out
        rw [e9] at HO5
        have HGn := HG3.out.set 0 (.slice p3 (pre.length + 1) cap3)
        have HOn := own_set HO5 HG3.out (by decide) 0 (.slice p3 (pre.length + 1) cap3)
        have HBn := HB3.out.setCell (p := ⟨w.heap.size, 0, none⟩) (Nat.le_refl _) (.slice p3 (pre.length + 1) cap3)
        exact ⟨_, rfl, ⟨Nat.le_refl _, _, HGn, by rw [HBase.out]; exact HOn⟩, HBn⟩
end Go.Proofs.Ythdodmbopchfdaa
