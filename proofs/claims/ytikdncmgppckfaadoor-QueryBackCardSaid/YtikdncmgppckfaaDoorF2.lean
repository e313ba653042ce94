/-
  The contract of query's Print: it answers the plain function's text, ErrMany past 256 pairs, ErrLong past 4096 bytes of a text. Conditions: the list's length fits.
-/
import Derived.Test.YtikdncmgppckfaaDoorF1
namespace Go.Proofs.YtikdncmgppckfaaDoor
open Go.RowKit
theorem wrT_len (l : List UInt8) (n : Nat) (h : l.length ≤ n) : (wrT l).length ≤ 12 * n := by
  have h1 := rpl_len [37, 50, 48] [43] (M.enc 8 (U.scal l)) (by simp)
  have h2 := enc_len 8 (U.scal l)
  have h3 := scal_len l
  unfold wrT; omega
theorem kept_has {b g : Nat} {w w' : World} {cs : Array Value} {t : TypeId} (h : Lib.OthersKept 5 (some b) w w') (hg : Has w g (.cells cs t)) (hne : g ≠ b) (ht : t ≠ 5) : Has w' g (.cells cs t) :=
  h g _ hg (fun e => hne (by simpa using e)) (fun c fz e => by injection e with _ e _; exact ht e)
theorem ML.kept {w w' : World} {B : Nat} (h : ML w) (hb : Below B w w') (h0 : 0 < B) : ML w' := by
  obtain ⟨m, hm⟩ := h
  exact ⟨m, (hb.cell (p := ⟨0, 0, none⟩) h0).trans hm⟩
/-- the writer at b holds A, the pair's box at g is as it was, nothing below B and no other block has been changed since w -/
structure St (B b g : Nat) (x y : ByteArray) (w : World) (A : List UInt8) (wX : World) : Prop where
  bld : IsB 49 B b A wX
  bel : Below B w wX
  kept : Lib.OthersKept 5 (some b) w wX
  box : Has wX g (.cells #[.string x, .string y] 38)
  ml : ML wX
theorem St.step {B b g : Nat} {x y : ByteArray} {w wX w' : World} {A A' : List UInt8} (h : St B b g x y w A wX) (h0 : 0 < B) (hg : g ≠ b) (h1 : IsB 49 B b A' w') (h2 : Below B wX w') (h3 : Lib.OthersKept 5 (some b) wX w') : St B b g x y w A' w' :=
  ⟨h1, h.bel.trans h2, h.kept.trans h3, kept_has h3 h.box hg (by decide), h.ml.kept h2 h0⟩
theorem St.size {B b g : Nat} {x y : ByteArray} {w wX : World} {A : List UInt8} (h : St B b g x y w A wX) (hBw : B ≤ w.heap.size) : B ≤ wX.heap.size := Nat.le_trans hBw h.bel.size
theorem St.c0 {B b g : Nat} {x y : ByteArray} {w wX : World} {A : List UInt8} (h : St B b g x y w A wX) : wX.cell? ⟨g, 0, none⟩ = some (.string x) := h.box.cell 0 rfl
theorem St.c1 {B b g : Nat} {x y : ByteArray} {w wX : World} {A : List UInt8} (h : St B b g x y w A wX) : wX.cell? ⟨g, 1, none⟩ = some (.string y) := h.box.cell 1 rfl
set_option maxHeartbeats 2000000 in
theorem pair_is (B b : Nat) (acc : List UInt8) (x y : ByteArray) (T : List UInt8) (hT : wrP (x, y) acc = T) (hx : x.size ≤ 4096) (hy : y.size ≤ 4096) (w : World) (hB : IsB 49 B b acc w) (hacc : acc.length ≤ 35184372088832) (hBw : B ≤ w.heap.size) (hM : ML w) (h0 : 0 < B) :
    Calls Tryd.prog 26 #[.pointer (some ⟨b, 0, none⟩), .agg #[.string x, .string y]] w fun e w' => e = .returned (.tuple #[]) ∧ IsB 49 B b T w' ∧ Below B w w' ∧ Lib.OthersKept 5 (some b) w w' := by
  have hblt := hB.lt
  obtain ⟨w1, hw1⟩ : ∃ w1, w1 = w.alloc (.cells #[.string x, .string y] 38) := ⟨_, rfl⟩
  have hb1 : Below B w w1 := by rw [hw1]; exact (Below.refl B w).alloc hBw _
  have S1 : St B b w.heap.size x y w acc w1 := ⟨by rw [hw1]; exact hB.later (bnew _ _), hb1, by rw [hw1]; exact (Lib.OthersKept.refl _ _ w).alloc _, by rw [hw1]; exact Has.new _ _, hM.kept hb1 h0⟩
  have HX := Lib.hid (wrT_len x.data.toList 4096 (by rw [len_list]; exact hx))
  have HY := Lib.hid (wrT_len y.data.toList 4096 (by rw [len_list]; exact hy))
  have HL := Lib.hid (bLen 49 B b acc w1 S1.bld)
  have hgb : w.heap.size ≠ b := by omega
  obtain ⟨A, hA⟩ : ∃ A, (if acc = [] then [] else acc ++ [38]) = A := ⟨_, rfl⟩
  have hAl : A.length ≤ acc.length + 1 := by
    rw [← hA]
    by_cases h : acc = []
    · rw [if_pos h]; simp
    · rw [if_neg h]; simp
  obtain ⟨X, hX⟩ : ∃ X, wrT x.data.toList = X := ⟨_, rfl⟩
  obtain ⟨Y, hY⟩ : ∃ Y, wrT y.data.toList = Y := ⟨_, rfl⟩
  have HT := Lib.hid (show A ++ X ++ [61] ++ Y = T by rw [← hT, wrP, hA, hX, hY])
  rw [hX] at HX
  rw [hY] at HY
  have H1 := Lib.hid S1
  have HW1 := Lib.hid hw1
  clear hB hM hT hb1 S1 hw1
  -- what comes behind the sign &
  have HR1 := Lib.hid (fun (w2 : World) (S2 : St B b w.heap.size x y w A w2) => text_is B b A x X hX hx w2 S2.bld (by omega) (S2.size hBw) S2.ml)
  have HR2 := Lib.hid (fun (w2 : World) (S2 : St B b w.heap.size x y w (A ++ X) w2) => bByte 49 bt49 B b (A ++ X) 61 61 rfl w2 S2.bld (by have := HX.out; simp only [List.length_append]; omega) (S2.size hBw))
  have HR3 := Lib.hid (fun (w2 : World) (S2 : St B b w.heap.size x y w (A ++ X ++ [61]) w2) => text_is B b (A ++ X ++ [61]) y Y hY hy w2 S2.bld (by have := HX.out; simp only [List.length_append, List.length_cons, List.length_nil]; omega) (S2.size hBw) S2.ml)
  clear HX HY hX hY hx hy
  by_cases hn : acc = []
  · subst hn
    have hA0 : A = [] := by rw [← hA]; rfl
    subst hA0
    clear hA
    go_enter Tryd.func26, Tryd.ntmps26
    have c0 := H1.out.c0
    go_wp2_with (go_at_call 44; rw [← HW1.out]; refine HL.out.mono ?_; rintro e w2 ⟨rfl, rfl⟩)
    refine (HR1.out _ H1.out).mono ?_
    rintro e w3 ⟨rfl, q1, q2, q3⟩
    have H3 := Lib.hid (H1.out.step h0 hgb q1 q2 q3)
    clear q1 q2 q3 c0
    go_wp2_with fail
    refine (HR2.out _ H3.out).mono ?_
    rintro e w4 ⟨rfl, q1, q2, q3⟩
    have H4 := Lib.hid (H3.out.step h0 hgb q1 q2 q3)
    clear q1 q2 q3
    have c1 := H4.out.c1
    go_wp2_with fail
    refine (HR3.out _ H4.out).mono ?_
    rintro e w5 ⟨rfl, q1, q2, q3⟩
    have H5 := Lib.hid (H4.out.step h0 hgb q1 q2 q3)
    clear q1 q2 q3 c1
    go_wp2
    go_end0
    exact ⟨rfl, by rw [← HT.out]; exact H5.out.bld, H5.out.bel, H5.out.kept⟩
  · have hl0 : 0 < acc.length := List.length_pos_iff.2 hn
    have hA0 : A = acc ++ [38] := by rw [← hA, if_neg hn]
    subst hA0
    clear hA
    go_enter Tryd.func26, Tryd.ntmps26
    go_wp2_with (go_at_call 44; rw [← HW1.out]; refine HL.out.mono ?_; rintro e w2 ⟨rfl, rfl⟩)
    refine (bByte 49 bt49 B b acc 38 38 rfl _ H1.out.bld (by omega) (H1.out.size hBw)).mono ?_
    rintro e w2 ⟨rfl, q1, q2, q3⟩
    have H2 := Lib.hid (H1.out.step h0 hgb q1 q2 q3)
    clear q1 q2 q3 H1 HL
    have c0 := H2.out.c0
    go_wp2_with fail
    refine (HR1.out _ H2.out).mono ?_
    rintro e w3 ⟨rfl, q1, q2, q3⟩
    have H3 := Lib.hid (H2.out.step h0 hgb q1 q2 q3)
    clear q1 q2 q3 c0
    go_wp2_with fail
    refine (HR2.out _ H3.out).mono ?_
    rintro e w4 ⟨rfl, q1, q2, q3⟩
    have H4 := Lib.hid (H3.out.step h0 hgb q1 q2 q3)
    clear q1 q2 q3
    have c1 := H4.out.c1
    go_wp2_with fail
    refine (HR3.out _ H4.out).mono ?_
    rintro e w5 ⟨rfl, q1, q2, q3⟩
    have H5 := Lib.hid (H4.out.step h0 hgb q1 q2 q3)
    clear q1 q2 q3 c1
    go_wp2
    go_end0
    exact ⟨rfl, by rw [← HT.out]; exact H5.out.bld, H5.out.bel, H5.out.kept⟩
end Go.Proofs.YtikdncmgppckfaaDoor
