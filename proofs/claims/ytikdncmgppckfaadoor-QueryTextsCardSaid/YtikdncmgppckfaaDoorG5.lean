import Derived.Test.YtikdncmgppckfaaDoorG4
import Derived.Deep.RegionWith
/-
  The contracts of query's without, fresh and Drop, at pairs.
-/
namespace Go.Proofs.YtikdncmgppckfaaDoor
open Go.RowKit
/-- texts that may be cloned -/
def Fit (l : List Fd) : Prop := ∀ x ∈ l, x.1.size ≤ 281474976710656 ∧ x.2.size ≤ 281474976710656
theorem Fit.drop {nm : ByteArray} {l : List Fd} (h : Fit l) : Fit (dropN nm l) := fun x hx => h x (List.mem_filter.1 hx).1
set_option maxHeartbeats 1000000 in
theorem without_is (nm : ByteArray) (bx : Nat) (q : Option Addr) (cap : Nat) (l : List Fd) (hn : q = none → cap = 0) (hm : l.length * 32 ≤ 140737488355328) (w : World) (hv : Lst w (.slice q l.length cap) l) (hbx : Boxed w bx 9 (.string nm)) :
    Calls Tryd.prog 37 #[.slice q l.length cap, .func (.func 55) #[] #[.pointer (some ⟨bx, 0, none⟩)]] w fun e w' => (∃ q' cap', e = .returned (.slice q' (dropN nm l).length cap') ∧ OwnF w' w.heap.size (.slice q' (dropN nm l).length cap') (dropN nm l)) ∧ Below w.heap.size w w' := by
  have HC := Lib.hid (sclone_is q l cap hn hm w hv)
  have HBX := Lib.hid hbx
  clear hv hbx hn
  go_enter Tryd.func37, Tryd.ntmps37
  go_wp2_with fail
  refine HC.out.mono ?_
  rintro e w1 ⟨⟨q1, c1, rfl, ho1⟩, hb1⟩
  have HO1 := Lib.hid ho1
  have HB1 := Lib.hid hb1
  clear ho1 hb1
  go_wp2_with fail
  refine (delete_is nm bx w.heap.size q1 c1 l (by omega) w1 HO1.out (Boxed.to' HBX.out HB1.out) HB1.out.size).mono ?_
  rintro e w2 ⟨⟨q2, c2, rfl, ho2⟩, hb2⟩
  have HO2 := Lib.hid ho2
  have HB2 := Lib.hid (HB1.out.trans hb2)
  clear ho2 hb2
  go_wp2
  go_ret
  exact ⟨⟨_, _, rfl, HO2.out⟩, HB2.out⟩
theorem set_self (l : List Fd) (k : Nat) (h : k < l.length) : l.set k l[k] = l := List.set_getElem_self h
set_option maxRecDepth 100000 in
set_option maxHeartbeats 8000000 in
theorem fresh_is (B : Nat) (q : Option Addr) (cap : Nat) (l : List Fd) (hf : Fit l) (hm : l.length ≤ 140737488355328) (w : World) (hv : OwnF w B (.slice q l.length cap) l) (hB : B ≤ w.heap.size) :
    Calls Tryd.prog 36 #[.slice q l.length cap] w fun e w' => (e = .returned (.slice q l.length cap) ∧ OwnF w' B (.slice q l.length cap) l) ∧ Below B w w' := by
  have HV := Lib.hid hv
  have HF := Lib.hid hf
  by_cases h0 : l.length = 0
  · have hl : l = [] := List.eq_nil_of_length_eq_zero h0
    subst hl
    clear hv hf h0
    go_enter Tryd.func36, Tryd.ntmps36
    go_wp2_with fail
    go_loopw [7] (fun s7 wr => s7 = .int .i64 0 ∧ wr = w) (fun _ _ => 0)
    case atStart => exact ⟨rfl, rfl⟩
    case round =>
      obtain ⟨rfl, rfl⟩ := hrel
      go_wp2
      go_ret
      exact ⟨⟨rfl, HV.out⟩, Below.refl _ _⟩
  · obtain ⟨g, rest, rfl, _, hBg, hrow, hlc, hcm, hls⟩ := hv.row (by omega)
    have HROW := Lib.hid hrow
    have HLS := Lib.hid hls
    unfold maxLen at hcm
    clear hv hf hrow hls
    go_enter Tryd.func36, Tryd.ntmps36
    go_wp2_with fail
    go_loopw [7] (fun s7 wr => ∃ k : Nat, k ≤ l.length ∧ s7 = .int .i64 k ∧ Hid (RowF wr g rest l) ∧ Hid (Below B w wr)) (fun s7 _ => l.length - (intOf s7).toNat)
    case atStart => exact ⟨0, by omega, rfl, HROW, Lib.hid (Below.refl _ _)⟩
    case round =>
      obtain ⟨k, hk, rfl, HR, HBE⟩ := hrel
      by_cases hlt : k < l.length
      · have i1 : (k : Int) < (l.length : Int) := by omega
        have hat := getF hlt
        have c0 := HR.out.c0 hat
        have c1 := HR.out.c1 hat
        have HSS := Lib.hid (set_self l k hlt)
        have HFX := Lib.hid (HF.out _ (List.getElem_mem hlt))
        have HAT := Lib.hid hat
        clear hat
        generalize l[k] = x at *
        obtain ⟨x1, x2⟩ := x
        have HA := Lib.hid (heap_alloc_new wr (.cells #[.string x1, .string x2] 38))
        have f0 : (wr.alloc (.cells #[.string x1, .string x2] 38)).drew.cell? ⟨wr.heap.size, 0, none⟩ = some (.string x1) := cell_of_row _ _ 0 _ _ _ HA.out
        have f1 : (wr.alloc (.cells #[.string x1, .string x2] 38)).drew.cell? ⟨wr.heap.size, 1, none⟩ = some (.string x2) := cell_of_row _ _ 1 _ _ _ HA.out
        have HC1 := Lib.hid (fun W : World => clone_is x1 W HFX.out.1)
        have HC2 := Lib.hid (fun W : World => clone_is x2 W HFX.out.2)
        have HBA := Lib.hid (show Below wr.heap.size wr (wr.alloc (.cells #[.string x1, .string x2] 38)).drew from (bnew wr _).drew)
        have hsr := HBE.out.size
        clear HV HF HROW
        go_wp2_with fail
        go_region_with (first
          | (go_at_call 35; refine (HC1.out _).mono ?_; rintro e w3 ⟨rfl, hb3⟩; have d1 : w3.cell? ⟨wr.heap.size, 1, none⟩ = some (.string x2) := (hb3.cell (p := ⟨wr.heap.size, 1, none⟩) (by simp)).trans f1; have HB3 := Lib.hid (HBA.out.trans (hb3.mono HBA.out.size)); clear hb3)
          | (go_at_call 35; refine (HC2.out _).mono ?_; rintro e w4 ⟨rfl, hb4⟩; have HB4 := Lib.hid (HB3.out.trans (hb4.mono HB3.out.size)); clear hb4; have hR4 := HR.out.to HB4.out; have t0 := hR4.c0 HAT.out; have t1 := hR4.c1 HAT.out; have e0 := hR4.f (k * 2); have e1 := hR4.f (k * 2 + 1); have HR4 := Lib.hid hR4; clear hR4))
        all_goals
          go_wp2
          go_roundw
          case rel => exact ⟨k + 1, by omega, by go_num, Lib.hid (by have := HR4.out.store hlt (x1, x2); rw [HSS.out] at this; exact this), Lib.hid (bel_set2 (HBE.out.trans (HB4.out.mono (by omega))) hBg _ _ _ _)⟩
          case measure => simp [intOf]; omega
      · obtain rfl : k = l.length := by omega
        go_wp2
        go_ret
        exact ⟨⟨rfl, by have := HR.out.own hBg (Nat.le_refl _) hlc (by unfold maxLen; omega) HLS.out; rw [List.take_of_length_le (Nat.le_refl _)] at this; exact this⟩, HBE.out⟩
set_option maxHeartbeats 1000000 in
theorem drop_is (nm : ByteArray) (q : Option Addr) (cap : Nat) (l : List Fd) (hn : q = none → cap = 0) (hm : l.length * 32 ≤ 140737488355328) (hf : Fit l) (w : World) (hv : Lst w (.slice q l.length cap) l) :
    Calls Tryd.prog 19 #[.slice q l.length cap, .string nm] w fun e w' => (∃ q' cap', e = .returned (.slice q' (dropN nm l).length cap') ∧ OwnF w' w.heap.size (.slice q' (dropN nm l).length cap') (dropN nm l)) ∧ Below w.heap.size w w' := by
  have HB0 := Lib.hid (bnew w (.cells #[.string nm] 9))
  have HN := Lib.hid (mk_named nm w)
  have HW := Lib.hid (without_is nm w.heap.size q cap l hn hm (w.alloc (.cells #[.string nm] 9)) (hv.below HB0.out) (Boxed.new w 9 _))
  have HF := Lib.hid (Fit.drop (nm := nm) hf)
  have hdl : (dropN nm l).length ≤ l.length := List.length_filter_le _ _
  clear hv hn hf
  go_enter Tryd.func19, Tryd.ntmps19
  go_wp2_with (go_at_call 34; refine HN.out.mono ?_; rintro e w1 ⟨rfl, rfl⟩)
  refine HW.out.mono ?_
  rintro e w2 ⟨⟨q2, c2, rfl, ho2⟩, hb2⟩
  have HO2 := Lib.hid ho2
  have HB2 := Lib.hid (HB0.out.trans (hb2.mono (by simp)))
  clear ho2 hb2
  go_wp2_with fail
  refine (fresh_is w.heap.size q2 c2 (dropN nm l) HF.out (by omega) w2 ⟨HO2.out.1, HO2.out.2.imp id (fun ⟨g, cap, cur, h1, h2, h3⟩ => ⟨g, cap, cur, h1, by simp at h2; omega, h3⟩)⟩ HB2.out.size).mono ?_
  rintro e w3 ⟨⟨rfl, ho3⟩, hb3⟩
  have HO3 := Lib.hid ho3
  have HB3 := Lib.hid (HB2.out.trans hb3)
  clear ho3 hb3
  go_wp2
  go_ret
  exact ⟨⟨_, _, rfl, HO3.out⟩, HB3.out⟩
end Go.Proofs.YtikdncmgppckfaaDoor
