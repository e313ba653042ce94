import Derived.Test.YthdodmbopchfdaaQE
import Derived.Test.YthdodmbopchfdaaPV
import Derived.Test.YthdodmbopchfdaaIC
namespace Go.Proofs.Ythdodmbopchfdaa
open Go.RowKit P
abbrev RC (u : ByteArray) (a : Int) (v : Value) (i n b : Int) : Array Value := #[.string u, .int .i64 a, v, .int .i64 i, .int .i64 n, .int .i64 b]
/-- a reader that the call has made, in block g -/
def Rd (B g : Nat) (u : ByteArray) (a : Nat) (l : List Int) (i n b : Int) (w : World) : Prop := B ≤ g ∧ ∃ v, Has w g (.cells (RC u a v i n b) 46) ∧ Own w B v l
theorem Rd.to {B g : Nat} {u : ByteArray} {a : Nat} {l : List Int} {i n b : Int} {w w' : World} (h : Rd B g u a l i n b w) (hb : Below w.heap.size w w') : Rd B g u a l i n b w' := by
  obtain ⟨hB, v, hG, hO⟩ := h
  exact ⟨hB, v, hG.to hb, hO.to hb⟩
set_option maxHeartbeats 1000000 in
theorem left_is (B g : Nat) (u : ByteArray) (a : Nat) (l : List Int) (i n b : Int) (o : Bool) (ho : decide (a < u.size) = o) (hu : u.size ≤ 1048576) (ha : a ≤ u.size) (w : World) (hR : Rd B g u a l i n b w) :
    Calls Try.prog 20 #[.pointer (some ⟨g, 0, none⟩)] w fun e w' => e = .returned (.bool o) ∧ Below w.heap.size w w' := by
  obtain ⟨hB, v, hG, hO⟩ := hR
  have c0 : w.cell? ⟨g, 0, none⟩ = some (.string u) := hG.cell 0 rfl
  have c1 : w.cell? ⟨g, 1, none⟩ = some (.int .i64 a) := hG.cell 1 rfl
  have HP := Lib.hid ho
  clear hG hO ho
  go_enter Try.func20, Try.ntmps20
  go_wp2_with fail
  go_quiet (fail)
  go_wp2
  go_ret
  exact ⟨ret_bool (by first | (rw [← HP.out]; done) | (rw [← HP.out]; simp)), below_dn (Below.refl _ _) _⟩
theorem Rd_dn {B g : Nat} {u : ByteArray} {a : Nat} {l : List Int} {i n b : Int} {w : World} (h : Rd B g u a l i n b w) (k : Nat) : Rd B g u a l i n b (w.drewN k) := by
  obtain ⟨hB, v, hG, hO⟩ := h
  exact ⟨hB, v, hG, hO⟩
theorem ret_ib {x y : Int} {p q : Bool} (h : x = y) (k : p = q) : Ending.returned (.tuple #[.int .i64 x, .bool p]) = .returned (.tuple #[.int .i64 y, .bool q]) := by rw [h, k]
def valT (c : Nat) : Int := (valN c).getD 0
set_option maxRecDepth 100000 in
set_option maxHeartbeats 4000000 in
theorem next_none (B g : Nat) (u : ByteArray) (a : Nat) (l : List Int) (i n b : Int) (hu : u.size ≤ 1048576) (ha : a = u.size) (w : World) (hR : Rd B g u a l i n b w) :
    Calls Try.prog 42 #[.pointer (some ⟨g, 0, none⟩)] w fun e w' => e = .returned (.tuple #[.int .i64 0, .bool false]) ∧ Below B w w' := by
  have hBw : B ≤ w.heap.size := by obtain ⟨hB, v, hG, _⟩ := hR; have := hG.lt; omega
  have HR := Lib.hid hR
  clear hR
  go_enter Try.func42, Try.ntmps42
  go_wp2_with fail
  refine (left_is B g u a l i n b false (by simp; omega) hu (by omega) _ HR.out).mono ?_
  rintro e w1 ⟨rfl, hb1⟩
  go_wp2
  go_ret2
  exact ⟨rfl, (Below.refl B w).trans (hb1.mono hBw)⟩
set_option maxRecDepth 100000 in
set_option maxHeartbeats 4000000 in
theorem next_some (B g : Nat) (u : ByteArray) (a : Nat) (l : List Int) (i n b : Int) (hu : u.size ≤ 1048576) (ha : a < u.size) (w : World) (hR : Rd B g u a l i n b w) :
    Calls Try.prog 42 #[.pointer (some ⟨g, 0, none⟩)] w fun e w' => e = .returned (.tuple #[.int .i64 (valT u[a].toNat), .bool (valN u[a].toNat).isSome]) ∧ Rd B g u (a + 1) l i n b w' ∧ Below B w w' := by
  have hBw : B ≤ w.heap.size := by obtain ⟨hB, v, hG, _⟩ := hR; have := hG.lt; omega
  have HR := Lib.hid hR
  have hcl := u[a].toNat_lt
  have HV : Hid ((97 ≤ u[a].toNat ∧ u[a].toNat ≤ 122 → valT u[a].toNat = (u[a].toNat : Int) - 97 ∧ (valN u[a].toNat).isSome = true) ∧ (¬ (97 ≤ u[a].toNat ∧ u[a].toNat ≤ 122) → 65 ≤ u[a].toNat ∧ u[a].toNat ≤ 90 → valT u[a].toNat = (u[a].toNat : Int) - 65 ∧ (valN u[a].toNat).isSome = true) ∧ (¬ (97 ≤ u[a].toNat ∧ u[a].toNat ≤ 122) → ¬ (65 ≤ u[a].toNat ∧ u[a].toNat ≤ 90) → 48 ≤ u[a].toNat ∧ u[a].toNat ≤ 57 → valT u[a].toNat = (u[a].toNat : Int) - 48 + 26 ∧ (valN u[a].toNat).isSome = true) ∧ (¬ (97 ≤ u[a].toNat ∧ u[a].toNat ≤ 122) → ¬ (65 ≤ u[a].toNat ∧ u[a].toNat ≤ 90) → ¬ (48 ≤ u[a].toNat ∧ u[a].toNat ≤ 57) → valT u[a].toNat = 0 ∧ (valN u[a].toNat).isSome = false)) := Lib.hid (by
    unfold valT valN
    refine ⟨fun h => ?_, fun h1 h => ?_, fun h1 h2 h => ?_, fun h1 h2 h3 => ?_⟩
    · rw [if_pos h]; exact ⟨rfl, rfl⟩
    · rw [if_neg h1, if_pos h]; exact ⟨rfl, rfl⟩
    · rw [if_neg h1, if_neg h2, if_pos h]; exact ⟨rfl, rfl⟩
    · rw [if_neg h1, if_neg h2, if_neg h3]; exact ⟨rfl, rfl⟩)
  clear hR
  go_enter Try.func42, Try.ntmps42
  go_wp2_with fail
  refine (left_is B g u a l i n b true (by simp; omega) hu (by omega) _ HR.out).mono ?_
  rintro e w1 ⟨rfl, hb1⟩
  have hR1 := HR.out.to hb1
  obtain ⟨hBg, v, hG, hO⟩ := hR1
  have hB1 := (Below.refl B w).trans (hb1.mono hBw)
  have c0 : w1.cell? ⟨g, 0, none⟩ = some (.string u) := hG.cell 0 rfl
  have c1 : w1.cell? ⟨g, 1, none⟩ = some (.int .i64 a) := hG.cell 1 rfl
  have fz1 := hG.free 1
  have HX := Lib.hid (And.intro hBg (And.intro hG (And.intro hO hB1)))
  have i0 : (0 : Int) ≤ (a : Int) := by omega
  have i1 : (a : Int) < (u.size : Int) := by omega
  clear hG hO hB1 hb1 HR
  go_wp2_with fail
  go_quiet (fail)
  go_wp2_with fail
  all_goals go_ret2
  all_goals obtain ⟨hBg, hG, hO, hB1⟩ := HX.out
  all_goals have hR2 : Rd B g u (a + 1) l i n b (w1.setCell ⟨g, 1, none⟩ (.int .i64 (a + 1 : Nat))) := ⟨hBg, v, hG.set 1 _, own_set hO hG (by decide) 1 _⟩
  all_goals have hB2 := hB1.setCell (p := ⟨g, 1, none⟩) hBg (.int .i64 (a + 1 : Nat))
  all_goals refine ⟨?_, Rd_dn hR2 _, below_dn hB2 _⟩
  all_goals first
    | exact ret_ib (by rw [(HV.out.1 (by omega)).1]) (by rw [(HV.out.1 (by omega)).2])
    | exact ret_ib (by rw [(HV.out.2.1 (by omega) (by omega)).1]) (by rw [(HV.out.2.1 (by omega) (by omega)).2])
    | exact ret_ib (by rw [(HV.out.2.2.1 (by omega) (by omega) (by omega)).1]) (by rw [(HV.out.2.2.1 (by omega) (by omega) (by omega)).2])
    | exact ret_ib (by rw [(HV.out.2.2.2 (by omega) (by omega) (by omega)).1]) (by rw [(HV.out.2.2.2 (by omega) (by omega) (by omega)).2])
end Go.Proofs.Ythdodmbopchfdaa
