import Derived.Test.YtamhmpgaapgmbaaDoorA13
import Derived.DeepKeys
import Derived.Laws.StructEq
namespace Go.Proofs.YtamhmpgaapgmbaaDoor
open Go.RowKit
theorem lit1 (a : Nat) (h : a < 65536) : Tryd.prog.keyLits 1 26 [.int .u16 (a : Int)] = some [.int .u16 (a : Int)] := by
  have h1 : IntKind.u16.min = 0 := by decide
  have h2 : IntKind.u16.max = 65535 := by decide
  have hw : (Lit.int .u16 (a : Int)).wf = true := by simp [Lit.wf, h1, h2]; omega
  unfold Program.keyLits
  rw [Tryd.underlying26]
  simp [hw]
theorem cells27 : Tryd.prog.cellsOf 27 = 8 := by kernel_rfl
theorem cells26 : Tryd.prog.cellsOf 26 = 1 := by kernel_rfl
theorem lits8 (a b c d e f g h : Nat) (ha : a < 65536) (hb : b < 65536) (hc : c < 65536) (hd : d < 65536) (he : e < 65536) (hf : f < 65536) (hg : g < 65536) (hh : h < 65536) : Tryd.prog.keyLits 2 27 [.int .u16 (a : Int), .int .u16 (b : Int), .int .u16 (c : Int), .int .u16 (d : Int), .int .u16 (e : Int), .int .u16 (f : Int), .int .u16 (g : Int), .int .u16 (h : Int)] = some [.int .u16 (a : Int), .int .u16 (b : Int), .int .u16 (c : Int), .int .u16 (d : Int), .int .u16 (e : Int), .int .u16 (f : Int), .int .u16 (g : Int), .int .u16 (h : Int)] := by
  unfold Program.keyLits
  rw [Tryd.underlying27]
  simp only [cells27, cells26, List.length_cons, List.length_nil]
  rw [if_pos trivial, show List.range 8 = [0, 1, 2, 3, 4, 5, 6, 7] from rfl]
  simp [lit1 a ha, lit1 b hb, lit1 c hc, lit1 d hd, lit1 e he, lit1 f hf, lit1 g hg, lit1 h hh]
theorem formed8 (a b c d e f g h : Value) : (Value.agg #[a, b, c, d, e, f, g, h]).formed Tryd.prog 27 = true := by kernel_rfl
theorem eight {α : Type} {l : List α} (h : l.length = 8) : ∃ a b c d e f g i, l = [a, b, c, d, e, f, g, i] := by
  match l, h with
  | [a, b, c, d, e, f, g, i], _ => exact ⟨a, b, c, d, e, f, g, i, rfl⟩
theorem eq8 (l m : List Nat) (hl : l.length = 8) (hm : m.length = 8) (bl : ∀ x ∈ l, x < 65536) (bm : ∀ x ∈ m, x < 65536) (W : World) : (binOp .eql 27 (.agg (A8 l)) (.agg (A8 m))).run Tryd.prog W = .ok (.bool (decide (l = m))) W := by
  obtain ⟨a, b, c, d, e, f, g, h, rfl⟩ := eight hl
  obtain ⟨a', b', c', d', e', f', g', h', rfl⟩ := eight hm
  simp only [List.mem_cons, List.mem_nil_iff, or_false, forall_eq_or_imp, forall_eq] at bl bm
  obtain ⟨p0, p1, p2, p3, p4, p5, p6, p7⟩ := bl
  obtain ⟨q0, q1, q2, q3, q4, q5, q6, q7⟩ := bm
  have hd := run_equalIn_deep (P := Tryd.prog) 9998 2 27 (by kernel_rfl)
  obtain ⟨r, hr, hiff⟩ := hd W 2 2 (.agg (A8 [a, b, c, d, e, f, g, h])) (.agg (A8 [a', b', c', d', e', f', g', h'])) _ _ (formed8 _ _ _ _ _ _ _ _) (formed8 _ _ _ _ _ _ _ _) (lits8 a b c d e f g h p0 p1 p2 p3 p4 p5 p6 p7) (lits8 a' b' c' d' e' f' g' h' q0 q1 q2 q3 q4 q5 q6 q7)
  rw [run_eql_struct, hr, Result.andThen_ok]
  have : r = decide ([a, b, c, d, e, f, g, h] = [a', b', c', d', e', f', g', h']) := by
    rw [Bool.eq_iff_iff, hiff, decide_eq_true_iff]
    simp
    omega
  rw [this]
end Go.Proofs.YtamhmpgaapgmbaaDoor
