import Derived.Test.YthdodmbopchfdaaPN
import Derived.Test.YthdodmbopchfdaaPE
import Derived.StillTailTactics
namespace Go.Proofs.Ythdodmbopchfdaa
open Go.RowKit P
attribute [local go_sem ↓] Go.wp_at_zero Go.wp_at_succ
theorem least_eq (n : Int) (l : List Int) : P.least n l = Go.Proofs.Ythdodmbopchfdaa.least n l := rfl
set_option maxRecDepth 100000 in
set_option maxHeartbeats 4000000 in
theorem put_is (B g : Nat) (o : List Int) (n d b h p : Int) (D : List Int) (b2 : Int) (hD : digs d b = D) (hb2 : bias d (h + 1) (h == p) = b2) (hq0 : 0 ≤ d) (hq1 : d ≤ 2147483647) (hb0 : 0 ≤ b) (hb1 : b ≤ 10000000000) (hh0 : 0 ≤ h) (hh1 : h ≤ 4096) (ho : o.length ≤ 70368744177664) (w : World) (hBw : B ≤ w.heap.size) (hW : Wr B g o n d b h p w) :
    Calls Try.prog 29 #[.pointer (some ⟨g, 0, none⟩)] w fun e w' => e = .returned (.tuple #[]) ∧ (Wr B g (o ++ D.map digZ) n 0 b2 (h + 1) p w' ∧ Below B w w') := by
  have c2 : w.cell? ⟨g, 2, none⟩ = some (.int .i64 d) := by obtain ⟨_, v, hG, _⟩ := hW; exact hG.cell 2 rfl
  have HD := Lib.hid hD
  have HB2 := Lib.hid hb2
  have HW := Lib.hid hW
  have k1 : IntKind.i64.wrap (h + 1) = h + 1 := IntWalk.i64_in _ (by omega)
  have K1 := Lib.hid k1
  obtain ⟨f, hf⟩ : ∃ f, (h == p) = f := ⟨_, rfl⟩
  have HF := Lib.hid hf
  rw [hf] at HB2
  clear hD hb2 hW k1 hf
  go_enter Try.func29, Try.ntmps29
  go_wp2_with fail
  refine (number_is B g o n d b h p d D HD.out hq0 hq1 hb0 hb1 ho w hBw HW.out).mono ?_
  rintro e w1 ⟨rfl, hW1, hb1'⟩
  obtain ⟨hBg, v1, hG1, hO1⟩ := hW1
  clear c2 HW
  have c2 : w1.cell? ⟨g, 2, none⟩ = some (.int .i64 d) := hG1.cell 2 rfl
  have c3 : w1.cell? ⟨g, 3, none⟩ = some (.int .i64 b) := hG1.cell 3 rfl
  have c4 : w1.cell? ⟨g, 4, none⟩ = some (.int .i64 h) := hG1.cell 4 rfl
  have c5 : w1.cell? ⟨g, 5, none⟩ = some (.int .i64 p) := hG1.cell 5 rfl
  have fz3 := hG1.free 3
  have fz2 := hG1.free 2
  have fz4 := hG1.free 4
  have hsz := hb1'.size
  have HBG := Lib.hid (And.intro hBg (And.intro hG1 (And.intro hO1 hb1')))
  clear hG1 hO1 hb1'
  go_wp2_with fail
  have k1 := K1.out
  have k2 := HF.out
  refine wp_region_still_tail 22 (by kernel_rfl) (by kernel_rfl) ?_
  simp only [List.take_succ_cons, List.take_zero, List.drop_succ_cons, List.drop_zero]
  repeat (first | still_step | still_call ((bias_is d (h + 1) b2 f HB2.out hq0 (by omega) (by omega) (by omega) _).mono fun e w' h => ⟨h.1, h.2.symm⟩))
  refine wpStill_nil ?_
  change wpList _ _ _ _ _ w1.drew
  clear k1 k2
  go_wp2
  refine bodyPost_end (results_none rfl _ _ _) rfl ?_
  obtain ⟨hBg, hG1, hO1, hb1'⟩ := HBG.out
  have s1 := ((hG1.set 3 (.int .i64 b2)).set 2 (.int .i64 0)).set 4 (.int .i64 (h + 1))
  have s2 := own_set (own_set (own_set hO1 hG1 (by decide) 3 (.int .i64 b2)) (hG1.set 3 (.int .i64 b2)) (by decide) 2 (.int .i64 0)) ((hG1.set 3 (.int .i64 b2)).set 2 (.int .i64 0)) (by decide) 4 (.int .i64 (h + 1))
  exact ⟨rfl, ⟨hBg, v1, s1, s2⟩, ((hb1'.drew.setCell (p := ⟨g, 3, none⟩) hBg _).setCell (p := ⟨g, 2, none⟩) hBg _).setCell (p := ⟨g, 4, none⟩) hBg _⟩
end Go.Proofs.Ythdodmbopchfdaa
