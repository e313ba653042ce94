/-
  The contracts of package pct for the sets of bytes: pct.of answers the marks of a set, marks.has and pct.In tell whether a byte is in the set, for every byte s and b; nothing that was there is changed. No further conditions.
-/
import Derived.Test.YtnjnhgeafbofkaaDoorPBM
import Derived.Test.YtnjnhgeafbofkaaDoorUtfIM
import Derived.WalkKit
import Derived.Lib.Hide
namespace Go.Proofs.YtnjnhgeafbofkaaDoor
open Go.RowKit M
/-- the array of a set's marks, as a value -/
def mv (m : Marks) : Array Value := #[.int .u64 m.1, .int .u64 m.2.1, .int .u64 m.2.2.1, .int .u64 m.2.2.2]
theorem bit_at_list (m0 m1 m2 m3 b m : Nat) (hm : [m0, m1, m2, m3][b / 64]? = some m) (h64 : m < 18446744073709551616) :
    (bits BinOp.and IntKind.u64 ((m : Int) / 2 ^ (b % 64)) 1 == 1) = bitAt (m0, m1, m2, m3) b := by
  have hd : ((m : Int) / 2 ^ (b % 64)) = ((m / 2 ^ (b % 64) : Nat) : Int) := by
    rw [Int.natCast_ediv, Int.natCast_pow]; rfl
  have hlt : m / 2 ^ (b % 64) < 18446744073709551616 := Nat.lt_of_le_of_lt (Nat.div_le_self _ _) h64
  rw [hd, show (1 : Int) = ((1 : Nat) : Int) from rfl, u64_and_nat _ _ hlt (by omega), Nat.and_one_is_mod]
  unfold bitAt
  simp only [List.getD_eq_getElem?_getD, hm, Option.getD_some]
  rw [Bool.eq_iff_iff]; simp only [beq_iff_eq]; omega
set_option maxHeartbeats 400000 in
theorem has_any (m0 m1 m2 m3 : Nat) (b : Nat) (hb : b < 256) (hok : okM (m0, m1, m2, m3)) (w : World) :
    Calls Tryd.prog 87 #[.agg #[.int .u64 m0, .int .u64 m1, .int .u64 m2, .int .u64 m3], .int .u8 b] w fun e w' => e = .returned (.bool (bitAt (m0, m1, m2, m3) b)) ∧ Below w.heap.size w w' := by
  obtain ⟨m, hm, hm64⟩ : ∃ m, [m0, m1, m2, m3][b / 64]? = some m ∧ m < 18446744073709551616 := by
    obtain ⟨k0, k1, k2, k3⟩ := hok
    have h4 : b / 64 = 0 ∨ b / 64 = 1 ∨ b / 64 = 2 ∨ b / 64 = 3 := by omega
    rcases h4 with h | h | h | h <;> rw [h]
    · exact ⟨_, rfl, k0⟩
    · exact ⟨_, rfl, k1⟩
    · exact ⟨_, rfl, k2⟩
    · exact ⟨_, rfl, k3⟩
  have h : [Value.int IntKind.u64 ↑m0, Value.int IntKind.u64 ↑m1, Value.int IntKind.u64 ↑m2, Value.int IntKind.u64 ↑m3][b / 64]? = some (.int .u64 m) := by
    have := congrArg (Option.map (fun (x : Nat) => Value.int .u64 (x : Int))) hm
    rw [← List.getElem?_map] at this
    exact this
  have hbit := Lib.hid (bit_at_list m0 m1 m2 m3 b m hm hm64)
  clear hm hm64 hok
  go_enter Tryd.func87, Tryd.ntmps87
  go_wp2
  go_ret
  exact ⟨ret_bool hbit.out, (Below.refl _ _).alloc (Nat.le_refl _) _⟩
theorem or_val (a v : Nat) (h : a < 18446744073709551616) : bits BinOp.or IntKind.u64 (a : Int) (IntKind.u64.wrap (2 ^ (v % 64))) = ((a ||| 2 ^ (v % 64) : Nat) : Int) := by
  have h2 : 2 ^ (v % 64) < 18446744073709551616 := Nat.pow_lt_pow_right (a := 2) (n := 64) (by omega) (Nat.mod_lt _ (by omega))
  have e : IntKind.u64.wrap (2 ^ (v % 64)) = ((2 ^ (v % 64) : Nat) : Int) := by
    rw [IntKind.wrap_u64, show ((2 : Int) ^ (v % 64)) = ((2 ^ (v % 64) : Nat) : Int) from (Int.natCast_pow 2 _).symm]
    generalize 2 ^ (v % 64) = q at *
    omega
  rw [e, u64_or_nat _ _ h h2]
theorem row_set {w : World} {b t : Nat} {cs : Array Value} (h : w.heap[b]? = some (.cells cs t (0, 0))) (i : Nat) (u : Value) :
    (w.setCell ⟨b, i, none⟩ u).heap[b]? = some (.cells (cs.setIfInBounds i u) t (0, 0)) := by
  simp [World.setCell, Array.getElem?_modify, h]
theorem frozen_of_row {w : World} {b t : Nat} {cs : Array Value} (h : w.heap[b]? = some (.cells cs t (0, 0))) (i : Nat) : w.frozen? ⟨b, i, none⟩ = false := by
  simp [World.frozen?, h]
theorem foldl_step (m : Marks) (l : List Nat) (k : Nat) (h : k < l.length) : (l.take (k + 1)).foldl sb m = sb ((l.take k).foldl sb m) (l.getD k 0) := by
  rw [take_snoc l k h, List.foldl_append]
  simp [h]
theorem sb_0 (a0 a1 a2 a3 v : Nat) (h : v / 64 = 0) : sb (a0, a1, a2, a3) v = (a0 ||| 2 ^ (v % 64), a1, a2, a3) := by unfold sb; rw [if_pos h]
theorem sb_1 (a0 a1 a2 a3 v : Nat) (h : v / 64 = 1) : sb (a0, a1, a2, a3) v = (a0, a1 ||| 2 ^ (v % 64), a2, a3) := by unfold sb; rw [if_neg (by omega), if_pos h]
theorem sb_2 (a0 a1 a2 a3 v : Nat) (h : v / 64 = 2) : sb (a0, a1, a2, a3) v = (a0, a1, a2 ||| 2 ^ (v % 64), a3) := by unfold sb; rw [if_neg (by omega), if_neg (by omega), if_pos h]
theorem sb_3 (a0 a1 a2 a3 v : Nat) (h : v / 64 = 3) : sb (a0, a1, a2, a3) v = (a0, a1, a2, a3 ||| 2 ^ (v % 64)) := by unfold sb; rw [if_neg (by omega), if_neg (by omega), if_neg (by omega)]
/-- four words come back that are the marks m; nothing that was there is changed -/
def MarksRet (w : World) (m : Marks) (e : Ending) (w' : World) : Prop := ∃ a b c d : Nat, e = .returned (.agg #[.int .u64 a, .int .u64 b, .int .u64 c, .int .u64 d]) ∧ Hid (m = (a, b, c, d)) ∧ Below w.heap.size w w'
set_option maxHeartbeats 1000000 in
theorem with_any (m0 m1 m2 m3 : Nat) (hok : okM (m0, m1, m2, m3)) (w : World) (ad : Addr) (n : Nat) (l : List Nat) (hl : l.length = n) (hn : n < 100) (hlb : ∀ x ∈ l, x < 256) (had : ad.block < w.heap.size)
   (hc : ∀ i, i < n → w.cell? (ad.add i) = some (.int .u8 (l.getD i 0))) :
    Calls Tryd.prog 105 #[.agg #[.int .u64 m0, .int .u64 m1, .int .u64 m2, .int .u64 m3], .slice (some ad) n n] w (MarksRet w (l.foldl sb (m0, m1, m2, m3))) := by
  have HC := Lib.hid hc
  have HL := Lib.hid hl
  have HB := Lib.hid hlb
  have HO := Lib.hid hok
  clear hc hl hlb hok
  go_enter Tryd.func105, Tryd.ntmps105
  go_wp2
  go_loopw [6, 9] (fun x i wr => ∃ k a0 a1 a2 a3 : Nat, k ≤ n ∧ i = .int .i64 k ∧ wr.heap[w.heap.size]? = some (.cells #[.int .u64 a0, .int .u64 a1, .int .u64 a2, .int .u64 a3] 115 (0,0)) ∧ wr.heap[w.heap.size + 1]? = some (.cells #[.int .u64 0, .int .u64 0, .int .u64 0, .int .u64 0] 115 (0,0)) ∧ Below w.heap.size w wr ∧ Hid ((l.take k).foldl sb (m0, m1, m2, m3) = (a0, a1, a2, a3))) (fun x i _ => n - (intOf i).toNat)
  case atStart =>
    refine ⟨0, m0, m1, m2, m3, by omega, rfl, ?_, ?_, ((Below.refl _ _).alloc (Nat.le_refl _) _).alloc (by simp) _, Lib.hid (by simp)⟩
    · exact (Below.heap_alloc _ _ _ (by simp)).trans (heap_alloc_new w _)
    · have := heap_alloc_new (w.alloc (.cells #[.int .u64 m0, .int .u64 m1, .int .u64 m2, .int .u64 m3] 115)) (.cells #[.int .u64 0, .int .u64 0, .int .u64 0, .int .u64 0] 115)
      simpa using this
  case round =>
    obtain ⟨k, a0, a1, a2, a3, hk, rfl, hblk, hblk2, hbel, HF⟩ := hrel
    by_cases hlt : k < n
    · have hcx : wr.cell? (ad.add k) = some (.int .u8 (l.getD k 0)) := (hbel.cell (p := ad.add k) (by unfold Addr.add; split <;> exact had)).trans (HC.out k hlt)
      have HF2 := Lib.hid (foldl_step (m0, m1, m2, m3) l k (by rw [HL.out]; exact hlt))
      have hok2 : okM (a0, a1, a2, a3) := by rw [← HF.out]; exact fold_ok _ _ HO.out
      have hv256 : l.getD k 0 < 256 := by
        have : k < l.length := by rw [HL.out]; exact hlt
        rw [List.getD_eq_getElem?_getD, List.getElem?_eq_getElem this]
        exact HB.out _ (List.getElem_mem this)
      obtain ⟨v, hv⟩ : ∃ v : Nat, v = l.getD k 0 := ⟨_, rfl⟩
      rw [← hv] at hcx hv256
      have HV := Lib.hid hv
      clear hv
      have e0 : wr.cell? ⟨w.heap.size, 0, none⟩ = some (.int .u64 a0) := cell_of_row _ _ 0 _ _ _ hblk
      have e1 : wr.cell? ⟨w.heap.size, 1, none⟩ = some (.int .u64 a1) := cell_of_row _ _ 1 _ _ _ hblk
      have e2 : wr.cell? ⟨w.heap.size, 2, none⟩ = some (.int .u64 a2) := cell_of_row _ _ 2 _ _ _ hblk
      have e3 : wr.cell? ⟨w.heap.size, 3, none⟩ = some (.int .u64 a3) := cell_of_row _ _ 3 _ _ _ hblk
      have HBLK := Lib.hid hblk
      have HBLK2 := Lib.hid hblk2
      have f0 := frozen_of_row hblk 0
      have f1 := frozen_of_row hblk 1
      have f2 := frozen_of_row hblk 2
      have f3 := frozen_of_row hblk 3
      clear hblk hblk2
      have h4 : v / 64 = 0 ∨ v / 64 = 1 ∨ v / 64 = 2 ∨ v / 64 = 3 := by omega
      rcases h4 with h | h | h | h
      · go_wp2
        go_roundw
        case rel =>
          refine ⟨k + 1, a0 ||| 2 ^ (v % 64), a1, a2, a3, by omega, by go_num, ?_, ?_, hbel.setCell (p := ⟨w.heap.size, 0, none⟩) (Nat.le_refl _) _, Lib.hid ?_⟩
          · rw [or_val _ _ hok2.1]; exact row_set HBLK.out 0 _
          · exact (Below.heap_setCell _ _ _ _ (by simp)).trans HBLK2.out
          · rw [HF2.out, HF.out, ← HV.out, sb_0 _ _ _ _ _ h]
        case measure => simp [intOf]; omega
      · go_wp2
        go_roundw
        case rel =>
          refine ⟨k + 1, a0, a1 ||| 2 ^ (v % 64), a2, a3, by omega, by go_num, ?_, ?_, hbel.setCell (p := ⟨w.heap.size, 1, none⟩) (Nat.le_refl _) _, Lib.hid ?_⟩
          · rw [or_val _ _ hok2.2.1]; exact row_set HBLK.out 1 _
          · exact (Below.heap_setCell _ _ _ _ (by simp)).trans HBLK2.out
          · rw [HF2.out, HF.out, ← HV.out, sb_1 _ _ _ _ _ h]
        case measure => simp [intOf]; omega
      · go_wp2
        go_roundw
        case rel =>
          refine ⟨k + 1, a0, a1, a2 ||| 2 ^ (v % 64), a3, by omega, by go_num, ?_, ?_, hbel.setCell (p := ⟨w.heap.size, 2, none⟩) (Nat.le_refl _) _, Lib.hid ?_⟩
          · rw [or_val _ _ hok2.2.2.1]; exact row_set HBLK.out 2 _
          · exact (Below.heap_setCell _ _ _ _ (by simp)).trans HBLK2.out
          · rw [HF2.out, HF.out, ← HV.out, sb_2 _ _ _ _ _ h]
        case measure => simp [intOf]; omega
      · go_wp2
        go_roundw
        case rel =>
          refine ⟨k + 1, a0, a1, a2, a3 ||| 2 ^ (v % 64), by omega, by go_num, ?_, ?_, hbel.setCell (p := ⟨w.heap.size, 3, none⟩) (Nat.le_refl _) _, Lib.hid ?_⟩
          · rw [or_val _ _ hok2.2.2.2]; exact row_set HBLK.out 3 _
          · exact (Below.heap_setCell _ _ _ _ (by simp)).trans HBLK2.out
          · rw [HF2.out, HF.out, ← HV.out, sb_3 _ _ _ _ _ h]
        case measure => simp [intOf]; omega
    · obtain rfl : k = n := by omega
      have e0 : wr.cell? ⟨w.heap.size, 0, none⟩ = some (.int .u64 a0) := cell_of_row _ _ 0 _ _ _ hblk
      have e1 : wr.cell? ⟨w.heap.size, 1, none⟩ = some (.int .u64 a1) := cell_of_row _ _ 1 _ _ _ hblk
      have e2 : wr.cell? ⟨w.heap.size, 2, none⟩ = some (.int .u64 a2) := cell_of_row _ _ 2 _ _ _ hblk
      have e3 : wr.cell? ⟨w.heap.size, 3, none⟩ = some (.int .u64 a3) := cell_of_row _ _ 3 _ _ _ hblk
      have g0 : wr.cell? ⟨w.heap.size + 1, 0, none⟩ = some (.int .u64 0) := cell_of_row _ _ 0 _ _ _ hblk2
      have g1 : wr.cell? ⟨w.heap.size + 1, 1, none⟩ = some (.int .u64 0) := cell_of_row _ _ 1 _ _ _ hblk2
      have g2 : wr.cell? ⟨w.heap.size + 1, 2, none⟩ = some (.int .u64 0) := cell_of_row _ _ 2 _ _ _ hblk2
      have g3 : wr.cell? ⟨w.heap.size + 1, 3, none⟩ = some (.int .u64 0) := cell_of_row _ _ 3 _ _ _ hblk2
      have f0 := frozen_of_row hblk2 0
      have f1 := frozen_of_row hblk2 1
      have f2 := frozen_of_row hblk2 2
      have f3 := frozen_of_row hblk2 3
      have HBLK := Lib.hid hblk
      have HBLK2 := Lib.hid hblk2
      clear hblk hblk2
      go_wp2
      have k0 : ∀ u, (wr.setCell ⟨w.heap.size + 1, 0, none⟩ u).cell? ⟨w.heap.size + 1, 0, none⟩ = some u := fun u => World.cell?_setCell_same' _ _ _ (by rw [g0]; rfl)
      have k1 : ∀ x u, ((wr.setCell ⟨w.heap.size + 1, 0, none⟩ x).setCell ⟨w.heap.size + 1, 1, none⟩ u).cell? ⟨w.heap.size + 1, 1, none⟩ = some u := fun x u => World.cell?_setCell_same' _ _ _ (by rw [World.cell?_setCell_other _ _ _ _ (by simp), g1]; rfl)
      have k2 : ∀ x y u, (((wr.setCell ⟨w.heap.size + 1, 0, none⟩ x).setCell ⟨w.heap.size + 1, 1, none⟩ y).setCell ⟨w.heap.size + 1, 2, none⟩ u).cell? ⟨w.heap.size + 1, 2, none⟩ = some u := fun x y u => World.cell?_setCell_same' _ _ _ (by rw [World.cell?_setCell_other _ _ _ _ (by simp), World.cell?_setCell_other _ _ _ _ (by simp), g2]; rfl)
      have k3 : ∀ x y z u, ((((wr.setCell ⟨w.heap.size + 1, 0, none⟩ x).setCell ⟨w.heap.size + 1, 1, none⟩ y).setCell ⟨w.heap.size + 1, 2, none⟩ z).setCell ⟨w.heap.size + 1, 3, none⟩ u).cell? ⟨w.heap.size + 1, 3, none⟩ = some u := fun x y z u => World.cell?_setCell_same' _ _ _ (by rw [World.cell?_setCell_other _ _ _ _ (by simp), World.cell?_setCell_other _ _ _ _ (by simp), World.cell?_setCell_other _ _ _ _ (by simp), g3]; rfl)
      refine bodyPost_ret (v := .agg #[.int .u64 a0, .int .u64 a1, .int .u64 a2, .int .u64 a3]) (by simp [results, Tryd.results105, go_sem, k0, k1, k2, k3]) rfl ⟨a0, a1, a2, a3, rfl, Lib.hid ?_, ?_⟩
      · have := HF.out
        rw [List.take_of_length_le (by rw [HL.out]; omega)] at this
        exact this
      · exact (((hbel.setCell (p := ⟨w.heap.size + 1, 0, none⟩) (by simp) _).setCell (p := ⟨w.heap.size + 1, 1, none⟩) (by simp) _).setCell (p := ⟨w.heap.size + 1, 2, none⟩) (by simp) _).setCell (p := ⟨w.heap.size + 1, 3, none⟩) (by simp) _

theorem cells4 {w : World} {b t : Nat} {x0 x1 x2 x3 : Value} (h : w.heap[b]? = some (.cells #[x0, x1, x2, x3] t (0, 0))) :
    w.cell? ⟨b, 0, none⟩ = some x0 ∧ w.cell? ⟨b, 1, none⟩ = some x1 ∧ w.cell? ⟨b, 2, none⟩ = some x2 ∧ w.cell? ⟨b, 3, none⟩ = some x3 ∧
    w.frozen? ⟨b, 0, none⟩ = false ∧ w.frozen? ⟨b, 1, none⟩ = false ∧ w.frozen? ⟨b, 2, none⟩ = false ∧ w.frozen? ⟨b, 3, none⟩ = false :=
  ⟨cell_of_row _ _ 0 _ _ _ h, cell_of_row _ _ 1 _ _ _ h, cell_of_row _ _ 2 _ _ _ h, cell_of_row _ _ 3 _ _ _ h, frozen_of_row h 0, frozen_of_row h 1, frozen_of_row h 2, frozen_of_row h 3⟩
theorem four_set {w : World} {b t : Nat} {x0 x1 x2 x3 : Value} (h : w.heap[b]? = some (.cells #[x0, x1, x2, x3] t (0, 0))) :
    (∀ u, (w.setCell ⟨b, 0, none⟩ u).cell? ⟨b, 0, none⟩ = some u) ∧
    (∀ x u, ((w.setCell ⟨b, 0, none⟩ x).setCell ⟨b, 1, none⟩ u).cell? ⟨b, 1, none⟩ = some u) ∧
    (∀ x y u, (((w.setCell ⟨b, 0, none⟩ x).setCell ⟨b, 1, none⟩ y).setCell ⟨b, 2, none⟩ u).cell? ⟨b, 2, none⟩ = some u) ∧
    (∀ x y z u, ((((w.setCell ⟨b, 0, none⟩ x).setCell ⟨b, 1, none⟩ y).setCell ⟨b, 2, none⟩ z).setCell ⟨b, 3, none⟩ u).cell? ⟨b, 3, none⟩ = some u) :=
  ⟨fun u => cell_of_row _ _ 0 _ _ _ (row_set h 0 u), fun x u => cell_of_row _ _ 1 _ _ _ (row_set (row_set h 0 x) 1 u), fun x y u => cell_of_row _ _ 2 _ _ _ (row_set (row_set (row_set h 0 x) 1 y) 2 u),
   fun x y z u => cell_of_row _ _ 3 _ _ _ (row_set (row_set (row_set (row_set h 0 x) 1 y) 2 z) 3 u)⟩
theorem below_four {w w1 : World} {B b : Nat} (h : Below B w w1) (hb : B ≤ b) (x y z u : Value) :
    Below B w ((((w1.setCell ⟨b, 0, none⟩ x).setCell ⟨b, 1, none⟩ y).setCell ⟨b, 2, none⟩ z).setCell ⟨b, 3, none⟩ u) :=
  (((h.setCell (p := ⟨b, 0, none⟩) hb _).setCell (p := ⟨b, 1, none⟩) hb _).setCell (p := ⟨b, 2, none⟩) hb _).setCell (p := ⟨b, 3, none⟩) hb _
theorem res_blk {w w1 : World} (cs : Array Value) (t : Nat) (hb : Below (w.alloc (.cells cs t)).heap.size (w.alloc (.cells cs t)) w1) : w1.heap[w.heap.size]? = some (.cells cs t (0, 0)) :=
  (hb.block w.heap.size (by simp)).trans (heap_alloc_new w _)

theorem lit_cells (w : World) (l : List Nat) (cs : Array Value) (h : cs = (l.map (fun (x : Nat) => Value.int .u8 (x : Int))).toArray) (i : Nat) (hi : i < l.length) :
    (w.alloc (.cells cs 5)).cell? ((⟨w.heap.size, 0, none⟩ : Addr).add i) = some (.int .u8 (l.getD i 0)) := by
  have hb := heap_alloc_new w (.cells cs 5)
  have e : (⟨w.heap.size, 0, none⟩ : Addr).add i = ⟨w.heap.size, i, none⟩ := by unfold Addr.add; split <;> simp_all
  rw [e, cell_of_row _ _ i _ _ _ hb, h]
  simp [hi]
set_option maxHeartbeats 400000 in
theorem controls_any (w : World) : Calls Tryd.prog 104 #[] w (MarksRet w (mk 1)) := by
  go_enter Tryd.func104, Tryd.ntmps104
  go_wp2
  refine bodyPost_ret (v := .agg (mv (mk 1))) (by simp [results, Tryd.results104, go_sem, mv, mk]) rfl ⟨_, _, _, _, rfl, Lib.hid rfl, ?_⟩
  exact (Below.refl _ _).alloc (Nat.le_refl _) _
set_option maxHeartbeats 400000 in
theorem of_1 (w : World) : Calls Tryd.prog 86 #[.int .u8 1] w (MarksRet w (mk 1)) := by
  go_enter Tryd.func86, Tryd.ntmps86
  go_wp2_with (go_at_call 104; refine (controls_any _).mono ?_; rintro e w1 ⟨a, b, c, d, rfl, HM, hb⟩; have hblk := res_blk _ _ hb; obtain ⟨g0, g1, g2, g3, f0, f1, f2, f3⟩ := cells4 hblk; obtain ⟨k0, k1, k2, k3⟩ := four_set hblk; have hb2 := Lib.hid (((Below.refl _ w).alloc (Nat.le_refl _) _).trans (hb.mono (by simp))); clear hb hblk)
  refine bodyPost_ret (v := .agg #[.int .u64 a, .int .u64 b, .int .u64 c, .int .u64 d]) (by simp [results, Tryd.results86, go_sem, k0, k1, k2, k3]) rfl ⟨a, b, c, d, rfl, HM, below_four hb2.out (Nat.le_refl _) _ _ _ _⟩

theorem of_parts {w w1 w2 : World} {cs cs2 : Array Value} {t t2 : Nat} (hb : Below (w.alloc (.cells cs t)).heap.size (w.alloc (.cells cs t)) w1) (hb2 : Below (w1.alloc (.cells cs2 t2)).heap.size (w1.alloc (.cells cs2 t2)) w2) :
    w2.heap[w.heap.size]? = some (.cells cs t (0, 0)) ∧ Below w.heap.size w w2 := by
  have h1 := hb.size
  have h2 := hb2.size
  simp at h1 h2
  exact ⟨(hb2.block w.heap.size (by simp; omega)).trans ((Below.heap_alloc _ _ _ (by omega)).trans (res_blk _ _ hb)), (((Below.refl _ w).alloc (Nat.le_refl _) _).trans (hb.mono (by simp))).trans ((((Below.refl _ w1).alloc (Nat.le_refl _) _).trans (hb2.mono (by simp))).mono (by omega))⟩
set_option maxHeartbeats 400000 in
theorem of_2 (w : World) : Calls Tryd.prog 86 #[.int .u8 2] w (MarksRet w (mk 2)) := by
  go_enter Tryd.func86, Tryd.ntmps86
  go_wp2_with (first | (go_at_call 86; refine (of_1 _).mono ?_; rintro e w1 ⟨a, b, c, d, rfl, HM, hb⟩) | (go_at_call 105; refine (with_any a b c d (by rw [← HM.out]; exact mk_ok _) _ _ 5 [32, 34, 60, 62, 96] rfl (by omega) (by decide) (by simp) (fun i hi => lit_cells _ _ _ (by rfl) i hi)).mono ?_; rintro e w2 ⟨a2, b2, c2, d2, rfl, HM2, hb2⟩; obtain ⟨hblk, hbel⟩ := of_parts hb hb2; obtain ⟨g0, g1, g2, g3, f0, f1, f2, f3⟩ := cells4 hblk; obtain ⟨k0, k1, k2, k3⟩ := four_set hblk; clear hb hb2 hblk))
  refine bodyPost_ret (v := .agg #[.int .u64 a2, .int .u64 b2, .int .u64 c2, .int .u64 d2]) (by simp [results, Tryd.results86, go_sem, k0, k1, k2, k3]) rfl ⟨a2, b2, c2, d2, rfl, Lib.hid ?_, below_four hbel (Nat.le_refl _) _ _ _ _⟩
  rw [← HM2.out, ← HM.out]; decide +kernel
set_option maxHeartbeats 400000 in
theorem of_3 (w : World) : Calls Tryd.prog 86 #[.int .u8 3] w (MarksRet w (mk 3)) := by
  go_enter Tryd.func86, Tryd.ntmps86
  go_wp2_with (first | (go_at_call 86; refine (of_1 _).mono ?_; rintro e w1 ⟨a, b, c, d, rfl, HM, hb⟩) | (go_at_call 105; refine (with_any a b c d (by rw [← HM.out]; exact mk_ok _) _ _ 5 [32, 34, 35, 60, 62] rfl (by omega) (by decide) (by simp) (fun i hi => lit_cells _ _ _ (by rfl) i hi)).mono ?_; rintro e w2 ⟨a2, b2, c2, d2, rfl, HM2, hb2⟩; obtain ⟨hblk, hbel⟩ := of_parts hb hb2; obtain ⟨g0, g1, g2, g3, f0, f1, f2, f3⟩ := cells4 hblk; obtain ⟨k0, k1, k2, k3⟩ := four_set hblk; clear hb hb2 hblk))
  refine bodyPost_ret (v := .agg #[.int .u64 a2, .int .u64 b2, .int .u64 c2, .int .u64 d2]) (by simp [results, Tryd.results86, go_sem, k0, k1, k2, k3]) rfl ⟨a2, b2, c2, d2, rfl, Lib.hid ?_, below_four hbel (Nat.le_refl _) _ _ _ _⟩
  rw [← HM2.out, ← HM.out]; decide +kernel
set_option maxHeartbeats 400000 in
theorem of_4 (w : World) : Calls Tryd.prog 86 #[.int .u8 4] w (MarksRet w (mk 4)) := by
  go_enter Tryd.func86, Tryd.ntmps86
  go_wp2_with (first | (go_at_call 86; refine (of_3 _).mono ?_; rintro e w1 ⟨a, b, c, d, rfl, HM, hb⟩) | (go_at_call 105; refine (with_any a b c d (by rw [← HM.out]; exact mk_ok _) _ _ 1 [39] rfl (by omega) (by decide) (by simp) (fun i hi => lit_cells _ _ _ (by rfl) i hi)).mono ?_; rintro e w2 ⟨a2, b2, c2, d2, rfl, HM2, hb2⟩; obtain ⟨hblk, hbel⟩ := of_parts hb hb2; obtain ⟨g0, g1, g2, g3, f0, f1, f2, f3⟩ := cells4 hblk; obtain ⟨k0, k1, k2, k3⟩ := four_set hblk; clear hb hb2 hblk))
  refine bodyPost_ret (v := .agg #[.int .u64 a2, .int .u64 b2, .int .u64 c2, .int .u64 d2]) (by simp [results, Tryd.results86, go_sem, k0, k1, k2, k3]) rfl ⟨a2, b2, c2, d2, rfl, Lib.hid ?_, below_four hbel (Nat.le_refl _) _ _ _ _⟩
  rw [← HM2.out, ← HM.out]; decide +kernel
set_option maxHeartbeats 400000 in
theorem of_5 (w : World) : Calls Tryd.prog 86 #[.int .u8 5] w (MarksRet w (mk 5)) := by
  go_enter Tryd.func86, Tryd.ntmps86
  go_wp2_with (first | (go_at_call 86; refine (of_3 _).mono ?_; rintro e w1 ⟨a, b, c, d, rfl, HM, hb⟩) | (go_at_call 105; refine (with_any a b c d (by rw [← HM.out]; exact mk_ok _) _ _ 5 [63, 94, 96, 123, 125] rfl (by omega) (by decide) (by simp) (fun i hi => lit_cells _ _ _ (by rfl) i hi)).mono ?_; rintro e w2 ⟨a2, b2, c2, d2, rfl, HM2, hb2⟩; obtain ⟨hblk, hbel⟩ := of_parts hb hb2; obtain ⟨g0, g1, g2, g3, f0, f1, f2, f3⟩ := cells4 hblk; obtain ⟨k0, k1, k2, k3⟩ := four_set hblk; clear hb hb2 hblk))
  refine bodyPost_ret (v := .agg #[.int .u64 a2, .int .u64 b2, .int .u64 c2, .int .u64 d2]) (by simp [results, Tryd.results86, go_sem, k0, k1, k2, k3]) rfl ⟨a2, b2, c2, d2, rfl, Lib.hid ?_, below_four hbel (Nat.le_refl _) _ _ _ _⟩
  rw [← HM2.out, ← HM.out]; decide +kernel
set_option maxHeartbeats 400000 in
theorem of_6 (w : World) : Calls Tryd.prog 86 #[.int .u8 6] w (MarksRet w (mk 6)) := by
  go_enter Tryd.func86, Tryd.ntmps86
  go_wp2_with (first | (go_at_call 86; refine (of_5 _).mono ?_; rintro e w1 ⟨a, b, c, d, rfl, HM, hb⟩) | (go_at_call 105; refine (with_any a b c d (by rw [← HM.out]; exact mk_ok _) _ _ 9 [47, 58, 59, 61, 64, 91, 92, 93, 124] rfl (by omega) (by decide) (by simp) (fun i hi => lit_cells _ _ _ (by rfl) i hi)).mono ?_; rintro e w2 ⟨a2, b2, c2, d2, rfl, HM2, hb2⟩; obtain ⟨hblk, hbel⟩ := of_parts hb hb2; obtain ⟨g0, g1, g2, g3, f0, f1, f2, f3⟩ := cells4 hblk; obtain ⟨k0, k1, k2, k3⟩ := four_set hblk; clear hb hb2 hblk))
  refine bodyPost_ret (v := .agg #[.int .u64 a2, .int .u64 b2, .int .u64 c2, .int .u64 d2]) (by simp [results, Tryd.results86, go_sem, k0, k1, k2, k3]) rfl ⟨a2, b2, c2, d2, rfl, Lib.hid ?_, below_four hbel (Nat.le_refl _) _ _ _ _⟩
  rw [← HM2.out, ← HM.out]; decide +kernel
set_option maxHeartbeats 400000 in
theorem of_7 (w : World) : Calls Tryd.prog 86 #[.int .u8 7] w (MarksRet w (mk 7)) := by
  go_enter Tryd.func86, Tryd.ntmps86
  go_wp2_with (first | (go_at_call 86; refine (of_6 _).mono ?_; rintro e w1 ⟨a, b, c, d, rfl, HM, hb⟩) | (go_at_call 105; refine (with_any a b c d (by rw [← HM.out]; exact mk_ok _) _ _ 5 [36, 37, 38, 43, 44] rfl (by omega) (by decide) (by simp) (fun i hi => lit_cells _ _ _ (by rfl) i hi)).mono ?_; rintro e w2 ⟨a2, b2, c2, d2, rfl, HM2, hb2⟩; obtain ⟨hblk, hbel⟩ := of_parts hb hb2; obtain ⟨g0, g1, g2, g3, f0, f1, f2, f3⟩ := cells4 hblk; obtain ⟨k0, k1, k2, k3⟩ := four_set hblk; clear hb hb2 hblk))
  refine bodyPost_ret (v := .agg #[.int .u64 a2, .int .u64 b2, .int .u64 c2, .int .u64 d2]) (by simp [results, Tryd.results86, go_sem, k0, k1, k2, k3]) rfl ⟨a2, b2, c2, d2, rfl, Lib.hid ?_, below_four hbel (Nat.le_refl _) _ _ _ _⟩
  rw [← HM2.out, ← HM.out]; decide +kernel
set_option maxHeartbeats 400000 in
theorem of_8 (w : World) : Calls Tryd.prog 86 #[.int .u8 8] w (MarksRet w (mk 8)) := by
  go_enter Tryd.func86, Tryd.ntmps86
  go_wp2_with (first | (go_at_call 86; refine (of_7 _).mono ?_; rintro e w1 ⟨a, b, c, d, rfl, HM, hb⟩) | (go_at_call 105; refine (with_any a b c d (by rw [← HM.out]; exact mk_ok _) _ _ 5 [33, 39, 40, 41, 126] rfl (by omega) (by decide) (by simp) (fun i hi => lit_cells _ _ _ (by rfl) i hi)).mono ?_; rintro e w2 ⟨a2, b2, c2, d2, rfl, HM2, hb2⟩; obtain ⟨hblk, hbel⟩ := of_parts hb hb2; obtain ⟨g0, g1, g2, g3, f0, f1, f2, f3⟩ := cells4 hblk; obtain ⟨k0, k1, k2, k3⟩ := four_set hblk; clear hb hb2 hblk))
  refine bodyPost_ret (v := .agg #[.int .u64 a2, .int .u64 b2, .int .u64 c2, .int .u64 d2]) (by simp [results, Tryd.results86, go_sem, k0, k1, k2, k3]) rfl ⟨a2, b2, c2, d2, rfl, Lib.hid ?_, below_four hbel (Nat.le_refl _) _ _ _ _⟩
  rw [← HM2.out, ← HM.out]; decide +kernel
set_option maxHeartbeats 400000 in
theorem of_any (s : Nat) (hs : s < 256) (w : World) : Calls Tryd.prog 86 #[.int .u8 s] w (MarksRet w (mk s)) := by
  by_cases h0 : s = 0 ∨ 9 ≤ s
  · have e : mk s = (0, 0, 0, 0) := by
      rcases h0 with h | h
      · subst h; decide +kernel
      · exact mk_big s h
    have n1 : ((s : Int) == 1) = false := by rw [beq_eq_false_iff_ne]; omega
    have n2 : ((s : Int) == 2) = false := by rw [beq_eq_false_iff_ne]; omega
    have n3 : ((s : Int) == 3) = false := by rw [beq_eq_false_iff_ne]; omega
    have n4 : ((s : Int) == 4) = false := by rw [beq_eq_false_iff_ne]; omega
    have n5 : ((s : Int) == 5) = false := by rw [beq_eq_false_iff_ne]; omega
    have n6 : ((s : Int) == 6) = false := by rw [beq_eq_false_iff_ne]; omega
    have n7 : ((s : Int) == 7) = false := by rw [beq_eq_false_iff_ne]; omega
    have n8 : ((s : Int) == 8) = false := by rw [beq_eq_false_iff_ne]; omega
    rw [e]
    clear e h0
    go_enter Tryd.func86, Tryd.ntmps86
    go_wp2
    refine bodyPost_ret (v := .agg (mv (0, 0, 0, 0))) (by simp [results, Tryd.results86, go_sem, mv]) rfl ⟨_, _, _, _, rfl, Lib.hid rfl, ?_⟩
    exact (Below.refl _ _).alloc (Nat.le_refl _) _
  · have h8 : s = 1 ∨ s = 2 ∨ s = 3 ∨ s = 4 ∨ s = 5 ∨ s = 6 ∨ s = 7 ∨ s = 8 := by omega
    rcases h8 with h | h | h | h | h | h | h | h <;> subst h
    · exact of_1 w
    · exact of_2 w
    · exact of_3 w
    · exact of_4 w
    · exact of_5 w
    · exact of_6 w
    · exact of_7 w
    · exact of_8 w
end Go.Proofs.YtnjnhgeafbofkaaDoor
