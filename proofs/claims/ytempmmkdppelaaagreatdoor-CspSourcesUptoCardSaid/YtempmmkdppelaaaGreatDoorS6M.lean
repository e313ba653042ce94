/-
  csp's source expressions: what they are; keyword.
-/
import Derived.Test.YtempmmkdppelaaaGreatDoorS5M
namespace Go.Proofs.YtempmmkdppelaaaGreatDoor
open Go.RowKit
/-- a source expression -/
structure Src where
  kind : Nat := 0
  text : ByteArray := ⟨#[]⟩
  scheme : ByteArray := ⟨#[]⟩
  wild : Bool := false
  port : Int := 0
  hasPort : Bool := false
  anyPort : Bool := false
  path : ByteArray := ⟨#[]⟩
def Src.cs (x : Src) : Array Value := #[.int .u8 x.kind, .string x.text, .string x.scheme, .bool x.wild, .int .i64 x.port, .bool x.hasPort, .bool x.anyPort, .string x.path]
def Src.v (x : Src) : Value := .agg x.cs
/-- what a reader answers -/
def RdRet (m : Option Src) (w : World) (e : Ending) (w' : World) : Prop := (∃ x : Src, e = .returned (.tuple #[x.v, .bool m.isSome]) ∧ ∀ y, m = some y → x = y) ∧ Below w.heap.size w w'
def kwL : List ByteArray := [⟨#[115, 101, 108, 102]⟩, ⟨#[110, 111, 110, 101]⟩, ⟨#[117, 110, 115, 97, 102, 101, 45, 105, 110, 108, 105, 110, 101]⟩, ⟨#[117, 110, 115, 97, 102, 101, 45, 101, 118, 97, 108]⟩, ⟨#[115, 116, 114, 105, 99, 116, 45, 100, 121, 110, 97, 109, 105, 99]⟩, ⟨#[117, 110, 115, 97, 102, 101, 45, 104, 97, 115, 104, 101, 115]⟩, ⟨#[114, 101, 112, 111, 114, 116, 45, 115, 97, 109, 112, 108, 101]⟩, ⟨#[119, 97, 115, 109, 45, 117, 110, 115, 97, 102, 101, 45, 101, 118, 97, 108]⟩]
theorem info46s : (Tryz.prog.info? 46).map (·.size) = some 8 := by kernel_rfl
theorem info46 : (Tryz.prog.info? 46).map (fun i => (i.zero, i.size, i.bytes)) = some (some (.agg #[.int .u8 0, .string ⟨#[]⟩, .string ⟨#[]⟩, .bool false, .int .i64 0, .bool false, .bool false, .string ⟨#[]⟩]), 8, 80) := by kernel_rfl
/-- the cells of a source expression are laid anew, one behind the other -/
def st8 (W : World) (b : Nat) (x : Src) : World := (((((((W.setCell ⟨b, 0, none⟩ (.int .u8 x.kind)).setCell ⟨b, 1, none⟩ (.string x.text)).setCell ⟨b, 2, none⟩ (.string x.scheme)).setCell ⟨b, 3, none⟩ (.bool x.wild)).setCell ⟨b, 4, none⟩ (.int .i64 x.port)).setCell ⟨b, 5, none⟩ (.bool x.hasPort)).setCell ⟨b, 6, none⟩ (.bool x.anyPort)).setCell ⟨b, 7, none⟩ (.string x.path)
theorem st8_has {W : World} {b : Nat} {x0 x : Src} (h : Has W b (.cells x0.cs 46)) : Has (st8 W b x) b (.cells x.cs 46) := by
  have h8 := (((((((h.set 0 (.int .u8 x.kind)).set 1 (.string x.text)).set 2 (.string x.scheme)).set 3 (.bool x.wild)).set 4 (.int .i64 x.port)).set 5 (.bool x.hasPort)).set 6 (.bool x.anyPort)).set 7 (.string x.path)
  unfold st8
  simpa only [Src.cs, List.setIfInBounds_toArray, List.set_cons_zero, List.set_cons_succ] using h8
theorem st8_below {w W : World} {n b : Nat} (x : Src) (h : Below n w W) (hb : n ≤ b) : Below n w (st8 W b x) :=
  (((((((h.setCell (p := ⟨b, 0, none⟩) hb _).setCell (p := ⟨b, 1, none⟩) hb _).setCell (p := ⟨b, 2, none⟩) hb _).setCell (p := ⟨b, 3, none⟩) hb _).setCell (p := ⟨b, 4, none⟩) hb _).setCell (p := ⟨b, 5, none⟩) hb _).setCell (p := ⟨b, 6, none⟩) hb _).setCell (p := ⟨b, 7, none⟩) hb _
theorem st8_far {W : World} {b g : Nat} {o : Obj} (x : Src) (h : Has W g o) (hb : g ≠ b) : Has (st8 W b x) g o :=
  (((((((h.far (p := ⟨b, 0, none⟩) hb _).far (p := ⟨b, 1, none⟩) hb _).far (p := ⟨b, 2, none⟩) hb _).far (p := ⟨b, 3, none⟩) hb _).far (p := ⟨b, 4, none⟩) hb _).far (p := ⟨b, 5, none⟩) hb _).far (p := ⟨b, 6, none⟩) hb _).far (p := ⟨b, 7, none⟩) hb _
theorem src_done {m : Option Src} {w W : World} (x : Src) (r : Bool) (hr : m.isSome = r) (hb : Below w.heap.size w W) (hm : ∀ y, m = some y → x = y) : RdRet m w (.returned (.tuple #[x.v, .bool r])) (st8 W w.heap.size x) := ⟨⟨x, by rw [hr], hm⟩, st8_below x hb (Nat.le_refl _)⟩
theorem ret46 {fn : Func} {p t2 : Tmp} (h : fn.results = #[.cell p 46, .tmp t2]) (tmps : Array Value) (W : World) (g : Nat) (x : Src) (r : Value) (hp : tmps.getD p undef = .pointer (some ⟨g, 0, none⟩)) (ht : tmps.getD t2 undef = r) (hg : Has W g (.cells x.cs 46)) :
    (results fn tmps).run Tryz.prog W = .ok (.tuple #[x.v, r]) W := by
  rw [← ht]
  exact results_cell_tmp h tmps W g 46 x.cs (0, 0) _ hp hg Tryz.underlying46 rfl info46s
theorem lows_size (t : ByteArray) : (lowS t).size = t.size := by
  rw [← Ks.len_list, ← Ks.len_list]; simp [lowS]
def keywordB (u : ByteArray) : Bool := kwL.any fun k => u.toList == k.data.toList
def keywordP (s : List UInt8) : Option Src :=
  let u := lowS ⟨((markedP s []).getD []).toArray⟩
  if keywordB u then some { text := u } else none
theorem marked_len (s beg : List UInt8) : ((markedP s beg).getD []).length ≤ s.length := by
  unfold markedP
  simp only
  split
  · rw [Option.getD_some, List.length_drop]
    refine Nat.le_trans (Nat.sub_le _ _) ?_
    have h1 : (Lib.trimPrefix s [39]).length ≤ s.length := by
      unfold Lib.trimPrefix; split
      · rw [List.length_drop]; omega
      · exact Nat.le_refl _
    refine Nat.le_trans ?_ h1
    unfold Lib.trimSuffix; split
    · rw [List.length_take]; omega
    · exact Nat.le_refl _
  · simp
set_option maxHeartbeats 4000000 in
set_option maxRecDepth 100000 in
theorem keyword_is (s : ByteArray) (hs : s.size ≤ 2097152) (w : World) :
    Calls Tryz.prog 65 #[.string s] w (RdRet (keywordP s.data.toList) w) := by
  have HM := Lib.hid (fun (W : World) => marked_is s ⟨#[]⟩ hs (Nat.zero_le _) _ rfl W)
  unfold keywordP
  have hml := marked_len s.data.toList []
  rw [show (⟨#[]⟩ : ByteArray).data.toList = [] from rfl] at HM
  generalize markedP s.data.toList [] = m at *
  unfold optS at HM
  obtain ⟨t, ht⟩ : ∃ t : ByteArray, t = ⟨(m.getD []).toArray⟩ := ⟨_, rfl⟩
  rw [← ht] at HM ⊢
  have hts : t.size ≤ 2097152 := by
    rw [Ks.len_list] at hml
    rw [← Ks.len_list, show t.data.toList = m.getD [] by rw [ht]]; omega
  have HL := Lib.hid (show ∀ W : World, Calls Tryz.prog 35 #[.string t] W fun e w' => e = .returned (.string (lowS t)) ∧ Below W.heap.size W w' from fun W => lower_any t (by unfold maxLen; omega) W)
  simp only
  generalize lowS t = u at *
  clear ht hml hts
  generalize m.isSome = x at *
  obtain ⟨X, hX⟩ : ∃ X, w.alloc (.cells #[.int .u8 0, .string ⟨#[]⟩, .string ⟨#[]⟩, .bool false, .int .i64 0, .bool false, .bool false, .string ⟨#[]⟩] 46) = X := ⟨_, rfl⟩
  have hXb : Has X w.heap.size (.cells ({} : Src).cs 46) := hX ▸ Has.new w _
  have HXB := Lib.hid hXb
  have HB0 := Lib.hid (show Below w.heap.size w X from hX ▸ bnew w _)
  clear hXb
  by_cases g0 : (u.toList == [115, 101, 108, 102]) = true
  · have HR := Lib.hid (show (if keywordB u = true then some { text := u } else none : Option Src) = some { text := u } by unfold keywordB kwL; simp only [List.any_cons, g0, Bool.true_or, Bool.or_true, if_true])
    rw [HR.out]
    go_enter Tryz.func65, Tryz.ntmps65
    go_wp2_with (first | (go_at_call 87; refine (HM.out _).mono ?_; rintro e w1 ⟨rfl, hb1⟩) | (go_at_call 35; refine (HL.out _).mono ?_; rintro e w2 ⟨rfl, hb2⟩; have HXK := Lib.hid ((HXB.out.to hb1).to hb2); have HB2 := Lib.hid (HB0.out.trans ((hb1.trans (hb2.mono hb1.size)).mono HB0.out.size)); have z0 := HXK.out.cell 0 rfl; have z1 := HXK.out.cell 1 rfl; have z2 := HXK.out.cell 2 rfl; have z3 := HXK.out.cell 3 rfl; have z4 := HXK.out.cell 4 rfl; have z5 := HXK.out.cell 5 rfl; have z6 := HXK.out.cell 6 rfl; have z7 := HXK.out.cell 7 rfl; have f0 := HXK.out.free 0; have f1 := HXK.out.free 1; have f2 := HXK.out.free 2; have f3 := HXK.out.free 3; have f4 := HXK.out.free 4; have f5 := HXK.out.free 5; have f6 := HXK.out.free 6; have f7 := HXK.out.free 7; clear hb1 hb2))
    show bodyPost _ _ _ _ _ (st8 w2 w.heap.size { text := u })
    exact bodyPost_ret (ret46 (p := 2) (t2 := 3) rfl _ _ w.heap.size { text := u } (.bool true) rfl rfl (st8_has (x := { text := u }) HXK.out)) rfl (src_done { text := u } true rfl HB2.out (fun y hy => Option.some.inj hy))
  · replace g0 := Bool.eq_false_iff.2 g0
    by_cases g1 : (u.toList == [110, 111, 110, 101]) = true
    · have HR := Lib.hid (show (if keywordB u = true then some { text := u } else none : Option Src) = some { text := u } by unfold keywordB kwL; simp only [List.any_cons, g1, Bool.true_or, Bool.or_true, if_true])
      rw [HR.out]
      go_enter Tryz.func65, Tryz.ntmps65
      go_wp2_with (first | (go_at_call 87; refine (HM.out _).mono ?_; rintro e w1 ⟨rfl, hb1⟩) | (go_at_call 35; refine (HL.out _).mono ?_; rintro e w2 ⟨rfl, hb2⟩; have HXK := Lib.hid ((HXB.out.to hb1).to hb2); have HB2 := Lib.hid (HB0.out.trans ((hb1.trans (hb2.mono hb1.size)).mono HB0.out.size)); have z0 := HXK.out.cell 0 rfl; have z1 := HXK.out.cell 1 rfl; have z2 := HXK.out.cell 2 rfl; have z3 := HXK.out.cell 3 rfl; have z4 := HXK.out.cell 4 rfl; have z5 := HXK.out.cell 5 rfl; have z6 := HXK.out.cell 6 rfl; have z7 := HXK.out.cell 7 rfl; have f0 := HXK.out.free 0; have f1 := HXK.out.free 1; have f2 := HXK.out.free 2; have f3 := HXK.out.free 3; have f4 := HXK.out.free 4; have f5 := HXK.out.free 5; have f6 := HXK.out.free 6; have f7 := HXK.out.free 7; clear hb1 hb2))
      show bodyPost _ _ _ _ _ (st8 w2 w.heap.size { text := u })
      exact bodyPost_ret (ret46 (p := 2) (t2 := 3) rfl _ _ w.heap.size { text := u } (.bool true) rfl rfl (st8_has (x := { text := u }) HXK.out)) rfl (src_done { text := u } true rfl HB2.out (fun y hy => Option.some.inj hy))
    · replace g1 := Bool.eq_false_iff.2 g1
      by_cases g2 : (u.toList == [117, 110, 115, 97, 102, 101, 45, 105, 110, 108, 105, 110, 101]) = true
      · have HR := Lib.hid (show (if keywordB u = true then some { text := u } else none : Option Src) = some { text := u } by unfold keywordB kwL; simp only [List.any_cons, g2, Bool.true_or, Bool.or_true, if_true])
        rw [HR.out]
        go_enter Tryz.func65, Tryz.ntmps65
        go_wp2_with (first | (go_at_call 87; refine (HM.out _).mono ?_; rintro e w1 ⟨rfl, hb1⟩) | (go_at_call 35; refine (HL.out _).mono ?_; rintro e w2 ⟨rfl, hb2⟩; have HXK := Lib.hid ((HXB.out.to hb1).to hb2); have HB2 := Lib.hid (HB0.out.trans ((hb1.trans (hb2.mono hb1.size)).mono HB0.out.size)); have z0 := HXK.out.cell 0 rfl; have z1 := HXK.out.cell 1 rfl; have z2 := HXK.out.cell 2 rfl; have z3 := HXK.out.cell 3 rfl; have z4 := HXK.out.cell 4 rfl; have z5 := HXK.out.cell 5 rfl; have z6 := HXK.out.cell 6 rfl; have z7 := HXK.out.cell 7 rfl; have f0 := HXK.out.free 0; have f1 := HXK.out.free 1; have f2 := HXK.out.free 2; have f3 := HXK.out.free 3; have f4 := HXK.out.free 4; have f5 := HXK.out.free 5; have f6 := HXK.out.free 6; have f7 := HXK.out.free 7; clear hb1 hb2))
        show bodyPost _ _ _ _ _ (st8 w2 w.heap.size { text := u })
        exact bodyPost_ret (ret46 (p := 2) (t2 := 3) rfl _ _ w.heap.size { text := u } (.bool true) rfl rfl (st8_has (x := { text := u }) HXK.out)) rfl (src_done { text := u } true rfl HB2.out (fun y hy => Option.some.inj hy))
      · replace g2 := Bool.eq_false_iff.2 g2
        by_cases g3 : (u.toList == [117, 110, 115, 97, 102, 101, 45, 101, 118, 97, 108]) = true
        · have HR := Lib.hid (show (if keywordB u = true then some { text := u } else none : Option Src) = some { text := u } by unfold keywordB kwL; simp only [List.any_cons, g3, Bool.true_or, Bool.or_true, if_true])
          rw [HR.out]
          go_enter Tryz.func65, Tryz.ntmps65
          go_wp2_with (first | (go_at_call 87; refine (HM.out _).mono ?_; rintro e w1 ⟨rfl, hb1⟩) | (go_at_call 35; refine (HL.out _).mono ?_; rintro e w2 ⟨rfl, hb2⟩; have HXK := Lib.hid ((HXB.out.to hb1).to hb2); have HB2 := Lib.hid (HB0.out.trans ((hb1.trans (hb2.mono hb1.size)).mono HB0.out.size)); have z0 := HXK.out.cell 0 rfl; have z1 := HXK.out.cell 1 rfl; have z2 := HXK.out.cell 2 rfl; have z3 := HXK.out.cell 3 rfl; have z4 := HXK.out.cell 4 rfl; have z5 := HXK.out.cell 5 rfl; have z6 := HXK.out.cell 6 rfl; have z7 := HXK.out.cell 7 rfl; have f0 := HXK.out.free 0; have f1 := HXK.out.free 1; have f2 := HXK.out.free 2; have f3 := HXK.out.free 3; have f4 := HXK.out.free 4; have f5 := HXK.out.free 5; have f6 := HXK.out.free 6; have f7 := HXK.out.free 7; clear hb1 hb2))
          show bodyPost _ _ _ _ _ (st8 w2 w.heap.size { text := u })
          exact bodyPost_ret (ret46 (p := 2) (t2 := 3) rfl _ _ w.heap.size { text := u } (.bool true) rfl rfl (st8_has (x := { text := u }) HXK.out)) rfl (src_done { text := u } true rfl HB2.out (fun y hy => Option.some.inj hy))
        · replace g3 := Bool.eq_false_iff.2 g3
          by_cases g4 : (u.toList == [115, 116, 114, 105, 99, 116, 45, 100, 121, 110, 97, 109, 105, 99]) = true
          · have HR := Lib.hid (show (if keywordB u = true then some { text := u } else none : Option Src) = some { text := u } by unfold keywordB kwL; simp only [List.any_cons, g4, Bool.true_or, Bool.or_true, if_true])
            rw [HR.out]
            go_enter Tryz.func65, Tryz.ntmps65
            go_wp2_with (first | (go_at_call 87; refine (HM.out _).mono ?_; rintro e w1 ⟨rfl, hb1⟩) | (go_at_call 35; refine (HL.out _).mono ?_; rintro e w2 ⟨rfl, hb2⟩; have HXK := Lib.hid ((HXB.out.to hb1).to hb2); have HB2 := Lib.hid (HB0.out.trans ((hb1.trans (hb2.mono hb1.size)).mono HB0.out.size)); have z0 := HXK.out.cell 0 rfl; have z1 := HXK.out.cell 1 rfl; have z2 := HXK.out.cell 2 rfl; have z3 := HXK.out.cell 3 rfl; have z4 := HXK.out.cell 4 rfl; have z5 := HXK.out.cell 5 rfl; have z6 := HXK.out.cell 6 rfl; have z7 := HXK.out.cell 7 rfl; have f0 := HXK.out.free 0; have f1 := HXK.out.free 1; have f2 := HXK.out.free 2; have f3 := HXK.out.free 3; have f4 := HXK.out.free 4; have f5 := HXK.out.free 5; have f6 := HXK.out.free 6; have f7 := HXK.out.free 7; clear hb1 hb2))
            show bodyPost _ _ _ _ _ (st8 w2 w.heap.size { text := u })
            exact bodyPost_ret (ret46 (p := 2) (t2 := 3) rfl _ _ w.heap.size { text := u } (.bool true) rfl rfl (st8_has (x := { text := u }) HXK.out)) rfl (src_done { text := u } true rfl HB2.out (fun y hy => Option.some.inj hy))
          · replace g4 := Bool.eq_false_iff.2 g4
            by_cases g5 : (u.toList == [117, 110, 115, 97, 102, 101, 45, 104, 97, 115, 104, 101, 115]) = true
            · have HR := Lib.hid (show (if keywordB u = true then some { text := u } else none : Option Src) = some { text := u } by unfold keywordB kwL; simp only [List.any_cons, g5, Bool.true_or, Bool.or_true, if_true])
              rw [HR.out]
              go_enter Tryz.func65, Tryz.ntmps65
              go_wp2_with (first | (go_at_call 87; refine (HM.out _).mono ?_; rintro e w1 ⟨rfl, hb1⟩) | (go_at_call 35; refine (HL.out _).mono ?_; rintro e w2 ⟨rfl, hb2⟩; have HXK := Lib.hid ((HXB.out.to hb1).to hb2); have HB2 := Lib.hid (HB0.out.trans ((hb1.trans (hb2.mono hb1.size)).mono HB0.out.size)); have z0 := HXK.out.cell 0 rfl; have z1 := HXK.out.cell 1 rfl; have z2 := HXK.out.cell 2 rfl; have z3 := HXK.out.cell 3 rfl; have z4 := HXK.out.cell 4 rfl; have z5 := HXK.out.cell 5 rfl; have z6 := HXK.out.cell 6 rfl; have z7 := HXK.out.cell 7 rfl; have f0 := HXK.out.free 0; have f1 := HXK.out.free 1; have f2 := HXK.out.free 2; have f3 := HXK.out.free 3; have f4 := HXK.out.free 4; have f5 := HXK.out.free 5; have f6 := HXK.out.free 6; have f7 := HXK.out.free 7; clear hb1 hb2))
              show bodyPost _ _ _ _ _ (st8 w2 w.heap.size { text := u })
              exact bodyPost_ret (ret46 (p := 2) (t2 := 3) rfl _ _ w.heap.size { text := u } (.bool true) rfl rfl (st8_has (x := { text := u }) HXK.out)) rfl (src_done { text := u } true rfl HB2.out (fun y hy => Option.some.inj hy))
            · replace g5 := Bool.eq_false_iff.2 g5
              by_cases g6 : (u.toList == [114, 101, 112, 111, 114, 116, 45, 115, 97, 109, 112, 108, 101]) = true
              · have HR := Lib.hid (show (if keywordB u = true then some { text := u } else none : Option Src) = some { text := u } by unfold keywordB kwL; simp only [List.any_cons, g6, Bool.true_or, Bool.or_true, if_true])
                rw [HR.out]
                go_enter Tryz.func65, Tryz.ntmps65
                go_wp2_with (first | (go_at_call 87; refine (HM.out _).mono ?_; rintro e w1 ⟨rfl, hb1⟩) | (go_at_call 35; refine (HL.out _).mono ?_; rintro e w2 ⟨rfl, hb2⟩; have HXK := Lib.hid ((HXB.out.to hb1).to hb2); have HB2 := Lib.hid (HB0.out.trans ((hb1.trans (hb2.mono hb1.size)).mono HB0.out.size)); have z0 := HXK.out.cell 0 rfl; have z1 := HXK.out.cell 1 rfl; have z2 := HXK.out.cell 2 rfl; have z3 := HXK.out.cell 3 rfl; have z4 := HXK.out.cell 4 rfl; have z5 := HXK.out.cell 5 rfl; have z6 := HXK.out.cell 6 rfl; have z7 := HXK.out.cell 7 rfl; have f0 := HXK.out.free 0; have f1 := HXK.out.free 1; have f2 := HXK.out.free 2; have f3 := HXK.out.free 3; have f4 := HXK.out.free 4; have f5 := HXK.out.free 5; have f6 := HXK.out.free 6; have f7 := HXK.out.free 7; clear hb1 hb2))
                show bodyPost _ _ _ _ _ (st8 w2 w.heap.size { text := u })
                exact bodyPost_ret (ret46 (p := 2) (t2 := 3) rfl _ _ w.heap.size { text := u } (.bool true) rfl rfl (st8_has (x := { text := u }) HXK.out)) rfl (src_done { text := u } true rfl HB2.out (fun y hy => Option.some.inj hy))
              · replace g6 := Bool.eq_false_iff.2 g6
                by_cases g7 : (u.toList == [119, 97, 115, 109, 45, 117, 110, 115, 97, 102, 101, 45, 101, 118, 97, 108]) = true
                · have HR := Lib.hid (show (if keywordB u = true then some { text := u } else none : Option Src) = some { text := u } by unfold keywordB kwL; simp only [List.any_cons, g7, Bool.true_or, Bool.or_true, if_true])
                  rw [HR.out]
                  go_enter Tryz.func65, Tryz.ntmps65
                  go_wp2_with (first | (go_at_call 87; refine (HM.out _).mono ?_; rintro e w1 ⟨rfl, hb1⟩) | (go_at_call 35; refine (HL.out _).mono ?_; rintro e w2 ⟨rfl, hb2⟩; have HXK := Lib.hid ((HXB.out.to hb1).to hb2); have HB2 := Lib.hid (HB0.out.trans ((hb1.trans (hb2.mono hb1.size)).mono HB0.out.size)); have z0 := HXK.out.cell 0 rfl; have z1 := HXK.out.cell 1 rfl; have z2 := HXK.out.cell 2 rfl; have z3 := HXK.out.cell 3 rfl; have z4 := HXK.out.cell 4 rfl; have z5 := HXK.out.cell 5 rfl; have z6 := HXK.out.cell 6 rfl; have z7 := HXK.out.cell 7 rfl; have f0 := HXK.out.free 0; have f1 := HXK.out.free 1; have f2 := HXK.out.free 2; have f3 := HXK.out.free 3; have f4 := HXK.out.free 4; have f5 := HXK.out.free 5; have f6 := HXK.out.free 6; have f7 := HXK.out.free 7; clear hb1 hb2))
                  show bodyPost _ _ _ _ _ (st8 w2 w.heap.size { text := u })
                  exact bodyPost_ret (ret46 (p := 2) (t2 := 3) rfl _ _ w.heap.size { text := u } (.bool true) rfl rfl (st8_has (x := { text := u }) HXK.out)) rfl (src_done { text := u } true rfl HB2.out (fun y hy => Option.some.inj hy))
                · replace g7 := Bool.eq_false_iff.2 g7
                  have HR := Lib.hid (show (if keywordB u = true then some { text := u } else none : Option Src) = none by unfold keywordB kwL; simp only [List.any_cons, List.any_nil, g0, g1, g2, g3, g4, g5, g6, g7, Bool.or_false, Bool.false_eq_true, if_false])
                  rw [HR.out]
                  go_enter Tryz.func65, Tryz.ntmps65
                  go_wp2_with (first | (go_at_call 87; refine (HM.out _).mono ?_; rintro e w1 ⟨rfl, hb1⟩) | (go_at_call 35; refine (HL.out _).mono ?_; rintro e w2 ⟨rfl, hb2⟩; have HXK := Lib.hid ((HXB.out.to hb1).to hb2); have HB2 := Lib.hid (HB0.out.trans ((hb1.trans (hb2.mono hb1.size)).mono HB0.out.size)); have z0 := HXK.out.cell 0 rfl; have z1 := HXK.out.cell 1 rfl; have z2 := HXK.out.cell 2 rfl; have z3 := HXK.out.cell 3 rfl; have z4 := HXK.out.cell 4 rfl; have z5 := HXK.out.cell 5 rfl; have z6 := HXK.out.cell 6 rfl; have z7 := HXK.out.cell 7 rfl; have f0 := HXK.out.free 0; have f1 := HXK.out.free 1; have f2 := HXK.out.free 2; have f3 := HXK.out.free 3; have f4 := HXK.out.free 4; have f5 := HXK.out.free 5; have f6 := HXK.out.free 6; have f7 := HXK.out.free 7; clear hb1 hb2))
                  show bodyPost _ _ _ _ _ (st8 w2 w.heap.size {})
                  exact bodyPost_ret (ret46 (p := 2) (t2 := 3) rfl _ _ w.heap.size {} (.bool false) rfl rfl (st8_has (x := {}) HXK.out)) rfl (src_done {} false rfl HB2.out (fun y hy => by cases hy))
end Go.Proofs.YtempmmkdppelaaaGreatDoor
