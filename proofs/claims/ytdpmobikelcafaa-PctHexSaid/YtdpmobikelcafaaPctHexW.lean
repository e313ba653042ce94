/-
  The walk of bastionlaw01.PctHex: it answers true for every byte and every text within the form's reach, and changes nothing that was there.
-/
import Derived.Test.YtdpmobikelcafaaPctEnc
import Derived.Test.YtdpmobikelcafaaLive1
import Derived.Test.YtdpmobikelcafaaReg
import Derived.RangeFuncOwn
import Derived.BigQuiet
import Derived.Deep.QuietTactic
import Derived.Test.YtdpmobikelcafaaPctBackW
import Derived.Test.YtdpmobikelcafaaPctPlainW
import Derived.Test.YtdpmobikelcafaaRefC
namespace Go.Proofs.Ytdpmobikelcafaa
open Go.RowKit M
def hexL (n : Nat) : UInt8 := if n < 10 then UInt8.ofNat (48 + n) else UInt8.ofNat (87 + n)
theorem enc_T1 (n : Nat) (h : n < 16) : Utf8.encode (((⟨#[48, 49, 50, 51, 52, 53, 54, 55, 56, 57, 65, 66, 67, 68, 69, 70]⟩ : ByteArray)[n]'h).toNat : Int) = ⟨#[hexU n]⟩ := by
  have : ∀ n : Fin 16, Utf8.encode (((⟨#[48, 49, 50, 51, 52, 53, 54, 55, 56, 57, 65, 66, 67, 68, 69, 70]⟩ : ByteArray)[n.1]'n.2).toNat : Int) = ⟨#[hexU n.1]⟩ := by decide +kernel
  exact this ⟨n, h⟩
theorem enc_T2 (n : Nat) (h : n < 16) : Utf8.encode (((⟨#[48, 49, 50, 51, 52, 53, 54, 55, 56, 57, 97, 98, 99, 100, 101, 102]⟩ : ByteArray)[n]'h).toNat : Int) = ⟨#[hexL n]⟩ := by
  have : ∀ n : Fin 16, Utf8.encode (((⟨#[48, 49, 50, 51, 52, 53, 54, 55, 56, 57, 97, 98, 99, 100, 101, 102]⟩ : ByteArray)[n.1]'n.2).toNat : Int) = ⟨#[hexL n.1]⟩ := by decide +kernel
  exact this ⟨n, h⟩
theorem hexL_hex : ∀ n, n < 16 → (hexv (hexL n).toNat = n) := by decide +kernel
theorem dec_two (b : Nat) (hb : b < 256) (c d : UInt8) (h1 : hexv c.toNat = b / 16) (h2 : hexv d.toNat = b % 16) (r : List UInt8) : dec (37 :: c :: d :: r) = UInt8.ofNat b :: dec r := by
  rw [dec, if_pos ⟨rfl, by omega, by omega⟩, h1, h2]
  congr 2; omega
theorem bcell {W w1 : World} (hb : Below W.heap.size W w1) : (∀ b o, b < W.heap.size → w1.cell? ⟨b, o, none⟩ = W.cell? ⟨b, o, none⟩) ∧ (∀ b o, b < W.heap.size → w1.frozen? ⟨b, o, none⟩ = W.frozen? ⟨b, o, none⟩) :=
  ⟨fun b o h => hb.cell (p := ⟨b, o, none⟩) h, fun b o h => hb.frozen (p := ⟨b, o, none⟩) h⟩
theorem bel_alloc {w W : World} (h : Below w.heap.size w W) (o : Obj) : Below w.heap.size w (W.alloc o) := h.alloc h.size o
def slH (i : Nat) : Nat := if i = 19 then 4 else 29 + i
def cellAt8 (b : Nat) (v : Value) (w : World) : Prop := ∃ g, v = .slice (some ⟨g, 0, none⟩) 1 1 ∧ w.cell? ⟨g, 0, none⟩ = some (.int .u8 (b : Int))
def VH (b : Nat) (β : UInt8) (D : List UInt8) (X1 X2 t : ByteArray) (i : Nat) (v : Value) (w : World) : Prop :=
  match i with
  | 0 => v = .string X1
  | 1 => v = .string ⟨#[β]⟩
  | 2 => v = .int .u8 (b : Int)
  | 3 => cellAt8 b v w
  | 4 => v = .string ⟨#[β]⟩
  | 7 => v = .string X2
  | 8 => v = .string t
  | 9 => v = .string (X2 ++ t)
  | 10 => v = .string ⟨(β :: D).toArray⟩
  | 11 => v = .int .u8 (b : Int)
  | 12 => cellAt8 b v w
  | 13 => v = .string ⟨#[β]⟩
  | 14 => v = .string t
  | 15 => v = .string ⟨D.toArray⟩
  | 16 => v = .string ⟨(β :: D).toArray⟩
  | _ => v = .bool true
theorem cellAt8_mono {b : Nat} {v : Value} {w w' : World} (h : cellAt8 b v w) (hb : Below w.heap.size w w') : cellAt8 b v w' := by
  obtain ⟨g, hv, hc⟩ := h
  obtain ⟨o, ho, _⟩ := cells_of_cell hc
  exact ⟨g, hv, (hb.cell (p := ⟨g, 0, none⟩) (Array.getElem?_eq_some_iff.1 ho).1).trans hc⟩
theorem VH_mono (b : Nat) (β : UInt8) (D : List UInt8) (X1 X2 t : ByteArray) : ∀ (i : Nat) (v : Value) (w w' : World), VH b β D X1 X2 t i v w → Below w.heap.size w w' → VH b β D X1 X2 t i v w'
  | 3, _, _, _, h, hb => cellAt8_mono h hb
  | 12, _, _, _, h, hb => cellAt8_mono h hb
  | 0, _, _, _, h, _ => h
  | 1, _, _, _, h, _ => h
  | 2, _, _, _, h, _ => h
  | 4, _, _, _, h, _ => h
  | 5, _, _, _, h, _ => h
  | 6, _, _, _, h, _ => h
  | 7, _, _, _, h, _ => h
  | 8, _, _, _, h, _ => h
  | 9, _, _, _, h, _ => h
  | 10, _, _, _, h, _ => h
  | 11, _, _, _, h, _ => h
  | 13, _, _, _, h, _ => h
  | 14, _, _, _, h, _ => h
  | 15, _, _, _, h, _ => h
  | 16, _, _, _, h, _ => h
  | _ + 17, _, _, _, h, _ => h
theorem cat1 (β : UInt8) (D : List UInt8) : (⟨#[β]⟩ : ByteArray) ++ ⟨D.toArray⟩ = ⟨(β :: D).toArray⟩ := by
  apply ByteArray.ext
  rw [ByteArray.data_append]
  simp
theorem tmp_some {a : Act} {k : Nat} {b : Bool} (h : a.eval (.tmp k) = .bool b) : a.tmps[k]? = some (.bool b) := by
  have e : a.tmps.getD k undef = .bool b := h
  rw [Array.getD_eq_getD_getElem?] at e
  cases hk : a.tmps[k]? with
  | none => rw [hk] at e; cases e
  | some x => rw [hk] at e; rw [show x = .bool b from e]
set_option maxHeartbeats 8000000 in
theorem PctHex_walk (b0 : Int) (hb0 : (Lit.int .u8 b0).wf = true) (t : ByteArray) (ht : t.size ≤ 140737488351232) (w : World) :
    Calls Try.prog 10 #[.int .u8 b0, .string t] w fun e w' => e = .returned (.bool true) ∧ Below w.heap.size w w' := by
  have hx : 0 ≤ b0 ∧ b0 ≤ 255 := by simpa [Lit.wf, IntKind.min, IntKind.max, IntKind.signed, IntKind.bits] using hb0
  obtain ⟨b, rfl⟩ := Int.eq_ofNat_of_zero_le hx.1
  have hb : b < 256 := by omega
  clear hb0 hx
  go_enter Try.func10, Try.ntmps10
  go_wp2_with fail
  refine (lives_any _).mono ?_
  rintro e w1 ⟨rfl, hb1⟩
  go_wp2_with fail
  obtain ⟨q1, q2, q3, q4, r1, r2, r3, r4⟩ := quo16 b hb
  obtain ⟨c1, HC1⟩ : ∃ c, Hid (hexU (b / 16) = c) := ⟨_, Lib.hid rfl⟩
  obtain ⟨c2, HC2⟩ : ∃ c, Hid (hexL (b % 16) = c) := ⟨_, Lib.hid rfl⟩
  obtain ⟨c3, HC3⟩ : ∃ c, Hid (hexL (b / 16) = c) := ⟨_, Lib.hid rfl⟩
  obtain ⟨c4, HC4⟩ : ∃ c, Hid (hexU (b % 16) = c) := ⟨_, Lib.hid rfl⟩
  have e1 := enc_T1 (b / 16) (by omega)
  have e2 := enc_T2 (b % 16) (by omega)
  have e3 := enc_T2 (b / 16) (by omega)
  have e4 := enc_T1 (b % 16) (by omega)
  rw [HC1.out] at e1
  rw [HC2.out] at e2
  rw [HC3.out] at e3
  rw [HC4.out] at e4
  go_quiet (fail)
  go_wp2_with fail
  go_quiet (fail)
  go_wp2_with fail
  have hX1 : dec ((⟨#[37]⟩ : ByteArray) ++ ⟨#[c1]⟩ ++ ⟨#[c2]⟩).data.toList = [UInt8.ofNat b] := by
    rw [ByteArray.data_append, ByteArray.data_append]
    show dec [37, c1, c2] = _
    rw [dec_two b hb c1 c2 (by rw [← HC1.out]; exact hexU_hex _ (by omega)) (by rw [← HC2.out]; exact hexL_hex _ (by omega))]; rfl
  obtain ⟨D, HD⟩ : ∃ D, Hid (dec t.data.toList = D) := ⟨_, Lib.hid rfl⟩
  have hX2 : dec ((⟨#[37]⟩ : ByteArray) ++ ⟨#[c3]⟩ ++ ⟨#[c4]⟩ ++ t).data.toList = UInt8.ofNat b :: D := by
    rw [ByteArray.data_append, Array.toList_append]
    show dec ([37, c3, c4] ++ t.data.toList) = _
    rw [← HD.out]
    exact dec_two b hb c3 c4 (by rw [← HC3.out]; exact hexL_hex _ (by omega)) (by rw [← HC4.out]; exact hexU_hex _ (by omega)) _
  have K1 := Lib.hid hX1
  have K2 := Lib.hid hX2
  obtain ⟨β, HB⟩ : ∃ β, Hid (UInt8.ofNat b = β) := ⟨_, Lib.hid rfl⟩
  rw [HB.out] at K1 K2
  have hbw : Below w.heap.size w (w1.drewN nq) := below_dn hb1 _
  clear hX1 hX2 e1 e2 e3 e4
  have hx1 : ((⟨#[37]⟩ : ByteArray) ++ ⟨#[c1]⟩ ++ ⟨#[c2]⟩).size ≤ 3 := by rw [ByteArray.size_append, ByteArray.size_append]; exact Nat.le_refl 3
  have hx2 : ((⟨#[37]⟩ : ByteArray) ++ ⟨#[c3]⟩ ++ ⟨#[c4]⟩).size ≤ 3 := by rw [ByteArray.size_append, ByteArray.size_append]; exact Nat.le_refl 3
  generalize ((⟨#[37]⟩ : ByteArray) ++ ⟨#[c1]⟩ ++ ⟨#[c2]⟩) = X1 at *
  generalize ((⟨#[37]⟩ : ByteArray) ++ ⟨#[c3]⟩ ++ ⟨#[c4]⟩) = X2 at *
  have hDl : D.length ≤ t.size := by rw [← HD.out]; have := dec_le t.data.toList; simpa using this
  have HX2 := Lib.hid (show (X2 ++ t).size = X2.size + t.size from ByteArray.size_append)
  have hno : ¬ 9223372036854775807 < X2.size + t.size := by omega
  have hno2 : ¬ 9223372036854775807 < 1 + D.length := by omega
  have kconv : ∀ (W : World) (g : Nat), W.cell? ⟨g, 0, none⟩ = some (.int .u8 (b : Int)) → (convert 37 9 (.slice (some ⟨g, 0, none⟩) 1 1)).run Try.prog W = .ok (.string ⟨#[β]⟩) W := fun W g hg => by
    have hbn : ((b : Int)) = ((β.toNat : Nat) : Int) := by rw [← HB.out, UInt8.toNat_ofNat', Nat.mod_eq_of_lt (by omega)]
    rw [hbn] at hg
    exact run_convert_bytes_back W 37 9 5 ⟨g, 0, none⟩ 1 [β] Try.underlying37 Try.underlying5 Try.underlying9 (fun j hj => by
      have : j = 0 := by simp at hj; omega
      subst this
      simpa [Addr.add] using hg)
  refine wp_region_vals (by kernel_rfl) slH (VH b β D X1 X2 t) (fun w' => Below w.heap.size w w') ?hlt ?hinj ?hback (VH_mono b β D X1 X2 t) (fun _ _ h h' => h.trans (h'.mono h.size)) ?h0 ?hop ?hdone
  case hlt => intro i hi; simp only [List.size_toArray, List.length_cons, List.length_nil] at hi ⊢; unfold slH; split <;> omega
  case hinj => intro i j hi hj; simp only [List.size_toArray, List.length_cons, List.length_nil] at hi hj; unfold slH; split <;> split <;> omega
  case hback => exact back_of (by decide +kernel)
  case h0 => exact Below.drew (below_dn (below_dn hb1 _) _)
  case hop =>
    intro i o ho a w' hF hg hd
    have hi : i < 20 := (Array.getElem?_eq_some_iff.1 ho).1
    have hcase : i = 0 ∨ i = 1 ∨ i = 2 ∨ i = 3 ∨ i = 4 ∨ i = 5 ∨ i = 6 ∨ i = 7 ∨ i = 8 ∨ i = 9 ∨ i = 10 ∨ i = 11 ∨ i = 12 ∨ i = 13 ∨ i = 14 ∨ i = 15 ∨ i = 16 ∨ i = 17 ∨ i = 18 ∨ i = 19 := by omega
    have h0 : a.eval (.tmp 0) = .int .u8 (b : Int) := (hF.2.2 0 (fun i _ => by unfold slH; split <;> omega)).trans rfl
    have h1 : a.eval (.tmp 1) = .string t := (hF.2.2 1 (fun i _ => by unfold slH; split <;> omega)).trans rfl
    have h5 : a.eval (.tmp 5) = .string X1 := (hF.2.2 5 (fun i _ => by unfold slH; split <;> omega)).trans rfl
    have h6 : a.eval (.tmp 6) = .string X2 := (hF.2.2 6 (fun i _ => by unfold slH; split <;> omega)).trans rfl
    have HD0 := Lib.hid hd
    clear hd hF
    rcases hcase with rfl | rfl | rfl | rfl | rfl | rfl | rfl | rfl | rfl | rfl | rfl | rfl | rfl | rfl | rfl | rfl | rfl | rfl | rfl | rfl
    all_goals
      simp only [List.getElem?_toArray, List.getElem?_cons_zero, List.getElem?_cons_succ, Option.some.injEq] at ho
      subst ho
      have hd := HD0.out
      simp [Region.binds, slH, VH] at hd
    · refine ⟨rfl, ?_⟩
      unfold Oper.wp
      simp [execOp, h5]
      exact ⟨_, rfl, rfl, Below.refl _ _⟩
    · refine ⟨rfl, ?_⟩
      unfold Oper.wp
      simp [execOp, resolve, invoke, hd]
      simp [go_sem]
      refine (decode_is X1 [β] K1.out (by omega) _).mono ?_
      rintro e w3 ⟨rfl, hb3⟩
      exact ⟨_, rfl, rfl, hb3⟩
    · refine ⟨rfl, ?_⟩
      unfold Oper.wp
      simp [execOp, h0]
      exact ⟨_, rfl, rfl, Below.refl _ _⟩
    · refine ⟨rfl, ?_⟩
      unfold Oper.wp
      simp [execOp, hd]
      simp [go_sem]
      exact ⟨_, rfl, ⟨w'.heap.size, rfl, cell_of_row _ _ 0 _ _ _ (heap_alloc_new w' _)⟩, (Below.refl _ _).alloc (Nat.le_refl _) _⟩
    · refine ⟨rfl, ?_⟩
      obtain ⟨g, hv, hc⟩ := hd
      unfold Oper.wp
      simp [execOp, hv, kconv _ _ hc]
      exact ⟨_, rfl, rfl, Below.refl _ _⟩
    · refine ⟨rfl, ?_⟩
      unfold Oper.wp
      simp [execOp, hd]
      simp [go_sem]
      exact ⟨_, rfl, rfl, Below.refl _ _⟩
    · refine ⟨rfl, ?_⟩
      unfold Oper.wp
      simp [execOp, hd]
      exact ⟨_, rfl, rfl, Below.refl _ _⟩
    · have h35 : a.eval (.tmp 35) = .bool true := by first | exact hd | exact hd.2 | exact hd.2.2 | exact hd.1 | exact hd.2.1 | exact hd.2.2.1
      refine ⟨by simp [Region.wanted, yielded, tmp_some h35], ?_⟩
      unfold Oper.wp
      simp [execOp, h6]
      exact ⟨_, rfl, rfl, Below.refl _ _⟩
    · have h35 : a.eval (.tmp 35) = .bool true := by first | exact hd | exact hd.2 | exact hd.2.2 | exact hd.1 | exact hd.2.1 | exact hd.2.2.1
      refine ⟨by simp [Region.wanted, yielded, tmp_some h35], ?_⟩
      unfold Oper.wp
      simp [execOp, h1]
      exact ⟨_, rfl, rfl, Below.refl _ _⟩
    · have h35 : a.eval (.tmp 35) = .bool true := by first | exact hd | exact hd.2 | exact hd.2.2 | exact hd.1 | exact hd.2.1 | exact hd.2.2.1
      refine ⟨by simp [Region.wanted, yielded, tmp_some h35], ?_⟩
      unfold Oper.wp
      simp [execOp, hd]
      simp [go_sem, hno]
      exact ⟨_, rfl, rfl, Below.refl _ _⟩
    · have h35 : a.eval (.tmp 35) = .bool true := by first | exact hd | exact hd.2 | exact hd.2.2 | exact hd.1 | exact hd.2.1 | exact hd.2.2.1
      refine ⟨by simp [Region.wanted, yielded, tmp_some h35], ?_⟩
      unfold Oper.wp
      simp [execOp, resolve, invoke, hd]
      simp [go_sem]
      refine (decode_is (X2 ++ t) (β :: D) K2.out (by rw [HX2.out]; omega) _).mono ?_
      rintro e w3 ⟨rfl, hb3⟩
      exact ⟨_, rfl, rfl, hb3⟩
    · have h35 : a.eval (.tmp 35) = .bool true := by first | exact hd | exact hd.2 | exact hd.2.2 | exact hd.1 | exact hd.2.1 | exact hd.2.2.1
      refine ⟨by simp [Region.wanted, yielded, tmp_some h35], ?_⟩
      unfold Oper.wp
      simp [execOp, h0]
      exact ⟨_, rfl, rfl, Below.refl _ _⟩
    · have h35 : a.eval (.tmp 35) = .bool true := by first | exact hd | exact hd.2 | exact hd.2.2 | exact hd.1 | exact hd.2.1 | exact hd.2.2.1
      refine ⟨by simp [Region.wanted, yielded, tmp_some h35], ?_⟩
      unfold Oper.wp
      simp [execOp, hd]
      simp [go_sem]
      exact ⟨_, rfl, ⟨w'.heap.size, rfl, cell_of_row _ _ 0 _ _ _ (heap_alloc_new w' _)⟩, (Below.refl _ _).alloc (Nat.le_refl _) _⟩
    · have h35 : a.eval (.tmp 35) = .bool true := by first | exact hd | exact hd.2 | exact hd.2.2 | exact hd.1 | exact hd.2.1 | exact hd.2.2.1
      refine ⟨by simp [Region.wanted, yielded, tmp_some h35], ?_⟩
      obtain ⟨g, hv, hc⟩ := hd.1
      unfold Oper.wp
      simp [execOp, hv, kconv _ _ hc]
      exact ⟨_, rfl, rfl, Below.refl _ _⟩
    · have h35 : a.eval (.tmp 35) = .bool true := by first | exact hd | exact hd.2 | exact hd.2.2 | exact hd.1 | exact hd.2.1 | exact hd.2.2.1
      refine ⟨by simp [Region.wanted, yielded, tmp_some h35], ?_⟩
      unfold Oper.wp
      simp [execOp, h1]
      exact ⟨_, rfl, rfl, Below.refl _ _⟩
    · have h35 : a.eval (.tmp 35) = .bool true := by first | exact hd | exact hd.2 | exact hd.2.2 | exact hd.1 | exact hd.2.1 | exact hd.2.2.1
      refine ⟨by simp [Region.wanted, yielded, tmp_some h35], ?_⟩
      unfold Oper.wp
      simp [execOp, resolve, invoke, hd]
      simp [go_sem]
      refine (decode_is t D HD.out (by omega) _).mono ?_
      rintro e w3 ⟨rfl, hb3⟩
      exact ⟨_, rfl, rfl, hb3⟩
    · have h35 : a.eval (.tmp 35) = .bool true := by first | exact hd | exact hd.2 | exact hd.2.2 | exact hd.1 | exact hd.2.1 | exact hd.2.2.1
      refine ⟨by simp [Region.wanted, yielded, tmp_some h35], ?_⟩
      unfold Oper.wp
      simp [execOp, hd]
      simp [go_sem, hno2]
      rw [cat1]
      exact ⟨_, rfl, rfl, Below.refl _ _⟩
    · have h35 : a.eval (.tmp 35) = .bool true := by first | exact hd | exact hd.2 | exact hd.2.2 | exact hd.1 | exact hd.2.1 | exact hd.2.2.1
      refine ⟨by simp [Region.wanted, yielded, tmp_some h35], ?_⟩
      unfold Oper.wp
      simp [execOp, hd]
      simp [go_sem]
      exact ⟨_, rfl, rfl, Below.refl _ _⟩
    · refine ⟨rfl, ?_⟩
      unfold Oper.wp
      simp [execOp, hd]
      exact ⟨_, rfl, rfl, Below.refl _ _⟩
    · refine ⟨rfl, ?_⟩
      unfold Oper.wp
      simp [execOp, hd]
      exact ⟨_, rfl, rfl, Below.refl _ _⟩
  case hdone =>
    intro a w' hF hg hv
    have h4 : a.eval (.tmp 4) = .bool true := hv 19 (by decide)
    simp only [Exit.then]
    rename_i K' hK'
    apply hK'
    go_wp2
    (try simp only [Exit.inBlock, Exit.then])
    refine bodyPost_ret (results_tmp rfl _ _ _) hF.2.1 ?_
    exact ⟨congrArg _ h4, hg⟩
end Go.Proofs.Ytdpmobikelcafaa
