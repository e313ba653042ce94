import Derived.Test.YtnjnhgeafbofkaaDoorRPM
import Derived.Test.YtnjnhgeafbofkaaDoorPctCM
import Derived.Test.YtnjnhgeafbofkaaDoorUtfIM
/-
  The contracts of query's writer: text and pair append what a text, a pair is written as; plain words for what that is.
-/
namespace Go.Proofs.YtnjnhgeafbofkaaDoor
open Go.RowKit
/-- bytealg's MaxLen has been set -/
def ML (w : World) : Prop := ∃ m, w.cell? ⟨0, 0, none⟩ = some (.int .i64 m)
theorem ML.to {w w' : World} (h : ML w) (hb : Below w.heap.size w w') : ML w' := by
  obtain ⟨m, hm⟩ := h
  exact ⟨m, (hb.cell (p := ⟨0, 0, none⟩) (World.block_lt_of_cell? _ _ hm)).trans hm⟩
theorem ML.drew {w : World} (h : ML w) : ML w.drew := h
theorem rplK_len (old new : List UInt8) (hle : new.length ≤ old.length) : ∀ (k : Nat) (s : List UInt8), (Lib.replaceK old new k s).length ≤ s.length
  | 0, s => Nat.le_refl _
  | k + 1, s => by
    by_cases h : ∃ i : Nat, Lib.index s old = i
    · obtain ⟨i, hi⟩ := h
      have hr := Lib.index_room s old (by rw [hi]; omega)
      rw [hi] at hr
      rw [Lib.replaceK_hit old new k s i hi]
      have ih := rplK_len old new hle k (s.drop (i + old.length))
      simp only [List.length_append, List.length_take, List.length_drop] at ih ⊢
      omega
    · unfold Lib.replaceK
      have hge := Lib.index_ge s old
      rw [if_pos (beq_iff_eq.2 (by
        by_cases h0 : 0 ≤ Lib.index s old
        · exact absurd ⟨(Lib.index s old).toNat, by omega⟩ h
        · omega))]
      exact Nat.le_refl _
theorem rpl_len (old new l : List UInt8) (hle : new.length ≤ old.length) : (rpl old new l).length ≤ l.length := rplK_len old new hle _ l
theorem scal_len (l : List UInt8) : (U.scal l).length ≤ 4 * l.length := by
  have h1 := U.enc_len (U.runesZ l)
  have h2 := (U.runes_count l).1
  unfold U.scal; omega
theorem kept_below {e : TypeId} {b : Option Nat} {w w' : World} (h : Below w.heap.size w w') : Lib.OthersKept e b w w' :=
  fun k o hk _ _ => (h.block k (lt_of_block hk)).trans hk
/-- what a text is written as -/
def wrT (l : List UInt8) : List UInt8 := rpl [37, 50, 48] [43] (M.enc 8 (U.scal l))
/-- what a pair is written as, behind what there is -/
def wrP (x : Fd) (acc : List UInt8) : List UInt8 := (if acc = [] then [] else acc ++ [38]) ++ wrT x.1.data.toList ++ [61] ++ wrT x.2.data.toList
theorem IsB.later {T : TypeId} {B b : Nat} {l : List UInt8} {w w' : World} (h : IsB T B b l w) (hb : Below w.heap.size w w') : IsB T B b l w' := by
  have key : ∀ p, Lib.BuilderAtF T 5 B b p (Lib.byteCells l) w → Lib.BuilderAtF T 5 B b p (Lib.byteCells l) w' := by
    rintro p ⟨hB, v, hbk, ⟨hn, hown⟩, hne⟩
    refine ⟨hB, v, (hb.block b (lt_of_block hbk)).trans hbk, ⟨hn, ?_⟩, hne⟩
    rcases hown with h | ⟨g, cap, cur, fz, hv, hBg, hg, rest⟩
    · exact .inl h
    · exact .inr ⟨g, cap, cur, fz, hv, hBg, (hb.block g (lt_of_block hg)).trans hg, rest⟩
  exact h.elim (fun x => .inl (key _ x)) (fun x => .inr (key _ x))
theorem IsB.lt {T : TypeId} {B b : Nat} {l : List UInt8} {w : World} (h : IsB T B b l w) : b < w.heap.size := h.elim (fun x => x.lt) (fun x => x.lt)
set_option maxHeartbeats 2000000 in
theorem text_is (B b : Nat) (acc : List UInt8) (s : ByteArray) (T : List UInt8) (hT : wrT s.data.toList = T) (hs : s.size ≤ 4096) (w : World) (hB : IsB 49 B b acc w) (hacc : acc.length ≤ 70368744177664) (hBw : B ≤ w.heap.size) (hM : ML w) :
    Calls Tryd.prog 46 #[.pointer (some ⟨b, 0, none⟩), .string s] w fun e w' => e = .returned (.tuple #[]) ∧ IsB 49 B b (acc ++ T) w' ∧ Below B w w' ∧ Lib.OthersKept 5 (some b) w w' := by
  have hS := scal_len s.data.toList
  rw [len_list] at hS
  obtain ⟨S, hS1⟩ : ∃ S, U.scal s.data.toList = S := ⟨_, rfl⟩
  have HS := Lib.hid (scalar_is s S hS1 (by omega) w)
  have hl : (M.enc 8 S).length ≤ 3 * S.length := enc_len 8 S
  rw [hS1] at hS
  have hT2 : rpl [37, 50, 48] [43] (M.enc 8 S) = T := by rw [← hT, wrT, hS1]
  have hl2 := rpl_len [37, 50, 48] [43] (M.enc 8 S) (by simp)
  have hl3 : T.length ≤ 49152 := by rw [← hT2]; omega
  have HSz := Lib.hid (show (⟨S.toArray⟩ : ByteArray).size ≤ 16384 by show S.toArray.size ≤ 16384; simp; omega)
  have HEz := Lib.hid (show (⟨(M.enc 8 S).toArray⟩ : ByteArray).size ≤ 49152 by show (M.enc 8 S).toArray.size ≤ 49152; simp; omega)
  have HTz := Lib.hid (show (⟨T.toArray⟩ : ByteArray).size = T.length by show T.toArray.size = _; simp)
  have HM := Lib.hid hM
  have HT2 := Lib.hid hT2
  have HB := Lib.hid hB
  have hblt := hB.lt
  clear hT hS1 hM hT2 hB hl hl2 hS
  go_enter Tryd.func46, Tryd.ntmps46
  go_wp2_with (go_at_call 51; refine HS.out.mono ?_; rintro e w1 ⟨rfl, hb1⟩)
  have HB1 := Lib.hid hb1
  have HE := Lib.hid (encode_any ⟨S.toArray⟩ (by have := HSz.out; omega) 8 (by omega) (by omega) w1)
  clear hb1
  go_wp2_with (go_at_call 66; refine HE.out.mono ?_; rintro e w2 ⟨rfl, hb2⟩)
  have HB2 := Lib.hid (bel2 HB1.out hb2)
  clear hb2
  obtain ⟨m, hm⟩ := HM.out.to HB2.out
  have HR := Lib.hid (replaceAll_is ⟨(M.enc 8 S).toArray⟩ ⟨#[37, 50, 48]⟩ ⟨#[43]⟩ T HT2.out m w2.drew (by have := HEz.out; omega) hm (by decide) (by decide) (by decide))
  clear hm
  have H67 := Lib.hid (show ∀ w3, Below w2.heap.size w2.drew w3 → Calls Tryd.prog 67 #[.pointer (some ⟨b, 0, none⟩), .string ⟨T.toArray⟩] w3 fun e w' => e = .returned (.tuple #[.int .i64 T.length, .nilIface]) ∧ IsB 49 B b (acc ++ T) w' ∧ Below B w w' ∧ Lib.OthersKept 5 (some b) w w' from fun w3 h3 => by
    have z2 := HB2.out.size
    have z3 := h3.size
    have z4 : w2.drew.heap.size = w2.heap.size := rfl
    have hb : IsB 49 B b acc w2.drew := HB.out.later HB2.out.drew
    have h := bStr 49 bt49 B b acc ⟨T.toArray⟩ w3 (hb.later h3) (by rw [HTz.out]; omega) (by omega)
    refine h.mono fun e w' ⟨he, hb4, hbel4, hk4⟩ => ⟨by rw [he, HTz.out], hb4, ((HB2.out.drew.trans (h3.mono z2)).mono hBw).trans hbel4, (kept_below (HB2.out.drew.trans (h3.mono z2))).trans hk4⟩)
  clear HB
  go_region_with (first
    | (go_at_call 53; refine HR.out.mono ?_; rintro e w3 ⟨rfl, hb3⟩; have HB3 := Lib.hid hb3; clear hb3)
    | (go_at_call 67; refine (H67.out _ HB3.out).mono ?_; rintro e w4 ⟨rfl, hb4, hbel4, hk4⟩))
  all_goals go_wp2
  all_goals go_end0
  all_goals exact ⟨rfl, hb4, hbel4, hk4⟩
end Go.Proofs.YtnjnhgeafbofkaaDoor
/-
  The contract of query's Print: it answers the plain function's text, ErrMany past 256 pairs, ErrLong past 4096 bytes of a text. Conditions: the list's length fits.
-/
namespace Go.Proofs.YtnjnhgeafbofkaaDoor
open Go.RowKit
theorem wrT_len (l : List UInt8) (n : Nat) (h : l.length ≤ n) : (wrT l).length ≤ 12 * n := by
  have h1 := rpl_len [37, 50, 48] [43] (M.enc 8 (U.scal l)) (by simp)
  have h2 := enc_len 8 (U.scal l)
  have h3 := scal_len l
  unfold wrT; omega
theorem kept_has {b g : Nat} {w w' : World} {cs : Array Value} {t : TypeId} (h : Lib.OthersKept 5 (some b) w w') (hg : Has w g (.cells cs t)) (hne : g ≠ b) (ht : t ≠ 5) : Has w' g (.cells cs t) :=
  h g _ hg (fun e => hne (by simpa using e)) (fun c fz e => by injection e with _ e _; exact ht e)
theorem ML.kept {w w' : World} {B : Nat} (h : ML w) (hb : Below B w w') (h0 : 0 < B) : ML w' := by
  obtain ⟨m, hm⟩ := h
  exact ⟨m, (hb.cell (p := ⟨0, 0, none⟩) h0).trans hm⟩
/-- the writer at b holds A, the pair's box at g is as it was, nothing below B and no other block has been changed since w -/
structure St (B b g : Nat) (x y : ByteArray) (w : World) (A : List UInt8) (wX : World) : Prop where
  bld : IsB 49 B b A wX
  bel : Below B w wX
  kept : Lib.OthersKept 5 (some b) w wX
  box : Has wX g (.cells #[.string x, .string y] 38)
  ml : ML wX
theorem St.step {B b g : Nat} {x y : ByteArray} {w wX w' : World} {A A' : List UInt8} (h : St B b g x y w A wX) (h0 : 0 < B) (hg : g ≠ b) (h1 : IsB 49 B b A' w') (h2 : Below B wX w') (h3 : Lib.OthersKept 5 (some b) wX w') : St B b g x y w A' w' :=
  ⟨h1, h.bel.trans h2, h.kept.trans h3, kept_has h3 h.box hg (by decide), h.ml.kept h2 h0⟩
theorem St.size {B b g : Nat} {x y : ByteArray} {w wX : World} {A : List UInt8} (h : St B b g x y w A wX) (hBw : B ≤ w.heap.size) : B ≤ wX.heap.size := Nat.le_trans hBw h.bel.size
theorem St.c0 {B b g : Nat} {x y : ByteArray} {w wX : World} {A : List UInt8} (h : St B b g x y w A wX) : wX.cell? ⟨g, 0, none⟩ = some (.string x) := h.box.cell 0 rfl
theorem St.c1 {B b g : Nat} {x y : ByteArray} {w wX : World} {A : List UInt8} (h : St B b g x y w A wX) : wX.cell? ⟨g, 1, none⟩ = some (.string y) := h.box.cell 1 rfl
set_option maxHeartbeats 2000000 in
theorem pair_is (B b : Nat) (acc : List UInt8) (x y : ByteArray) (T : List UInt8) (hT : wrP (x, y) acc = T) (hx : x.size ≤ 4096) (hy : y.size ≤ 4096) (w : World) (hB : IsB 49 B b acc w) (hacc : acc.length ≤ 35184372088832) (hBw : B ≤ w.heap.size) (hM : ML w) (h0 : 0 < B) :
    Calls Tryd.prog 26 #[.pointer (some ⟨b, 0, none⟩), .agg #[.string x, .string y]] w fun e w' => e = .returned (.tuple #[]) ∧ IsB 49 B b T w' ∧ Below B w w' ∧ Lib.OthersKept 5 (some b) w w' := by
  have hblt := hB.lt
  obtain ⟨w1, hw1⟩ : ∃ w1, w1 = w.alloc (.cells #[.string x, .string y] 38) := ⟨_, rfl⟩
  have hb1 : Below B w w1 := by rw [hw1]; exact (Below.refl B w).alloc hBw _
  have S1 : St B b w.heap.size x y w acc w1 := ⟨by rw [hw1]; exact hB.later (bnew _ _), hb1, by rw [hw1]; exact (Lib.OthersKept.refl _ _ w).alloc _, by rw [hw1]; exact Has.new _ _, hM.kept hb1 h0⟩
  have HX := Lib.hid (wrT_len x.data.toList 4096 (by rw [len_list]; exact hx))
  have HY := Lib.hid (wrT_len y.data.toList 4096 (by rw [len_list]; exact hy))
  have HL := Lib.hid (bLen 49 B b acc w1 S1.bld)
  have hgb : w.heap.size ≠ b := by omega
  obtain ⟨A, hA⟩ : ∃ A, (if acc = [] then [] else acc ++ [38]) = A := ⟨_, rfl⟩
  have hAl : A.length ≤ acc.length + 1 := by
    rw [← hA]
    by_cases h : acc = []
    · rw [if_pos h]; simp
    · rw [if_neg h]; simp
  obtain ⟨X, hX⟩ : ∃ X, wrT x.data.toList = X := ⟨_, rfl⟩
  obtain ⟨Y, hY⟩ : ∃ Y, wrT y.data.toList = Y := ⟨_, rfl⟩
  have HT := Lib.hid (show A ++ X ++ [61] ++ Y = T by rw [← hT, wrP, hA, hX, hY])
  rw [hX] at HX
  rw [hY] at HY
  have H1 := Lib.hid S1
  have HW1 := Lib.hid hw1
  clear hB hM hT hb1 S1 hw1
  -- what comes behind the sign &
  have HR1 := Lib.hid (fun (w2 : World) (S2 : St B b w.heap.size x y w A w2) => text_is B b A x X hX hx w2 S2.bld (by omega) (S2.size hBw) S2.ml)
  have HR2 := Lib.hid (fun (w2 : World) (S2 : St B b w.heap.size x y w (A ++ X) w2) => bByte 49 bt49 B b (A ++ X) 61 61 rfl w2 S2.bld (by have := HX.out; simp only [List.length_append]; omega) (S2.size hBw))
  have HR3 := Lib.hid (fun (w2 : World) (S2 : St B b w.heap.size x y w (A ++ X ++ [61]) w2) => text_is B b (A ++ X ++ [61]) y Y hY hy w2 S2.bld (by have := HX.out; simp only [List.length_append, List.length_cons, List.length_nil]; omega) (S2.size hBw) S2.ml)
  clear HX HY hX hY hx hy
  by_cases hn : acc = []
  · subst hn
    have hA0 : A = [] := by rw [← hA]; rfl
    subst hA0
    clear hA
    go_enter Tryd.func26, Tryd.ntmps26
    have c0 := H1.out.c0
    go_wp2_with (go_at_call 44; rw [← HW1.out]; refine HL.out.mono ?_; rintro e w2 ⟨rfl, rfl⟩)
    refine (HR1.out _ H1.out).mono ?_
    rintro e w3 ⟨rfl, q1, q2, q3⟩
    have H3 := Lib.hid (H1.out.step h0 hgb q1 q2 q3)
    clear q1 q2 q3 c0
    go_wp2_with fail
    refine (HR2.out _ H3.out).mono ?_
    rintro e w4 ⟨rfl, q1, q2, q3⟩
    have H4 := Lib.hid (H3.out.step h0 hgb q1 q2 q3)
    clear q1 q2 q3
    have c1 := H4.out.c1
    go_wp2_with fail
    refine (HR3.out _ H4.out).mono ?_
    rintro e w5 ⟨rfl, q1, q2, q3⟩
    have H5 := Lib.hid (H4.out.step h0 hgb q1 q2 q3)
    clear q1 q2 q3 c1
    go_wp2
    go_end0
    exact ⟨rfl, by rw [← HT.out]; exact H5.out.bld, H5.out.bel, H5.out.kept⟩
  · have hl0 : 0 < acc.length := List.length_pos_iff.2 hn
    have hA0 : A = acc ++ [38] := by rw [← hA, if_neg hn]
    subst hA0
    clear hA
    go_enter Tryd.func26, Tryd.ntmps26
    go_wp2_with (go_at_call 44; rw [← HW1.out]; refine HL.out.mono ?_; rintro e w2 ⟨rfl, rfl⟩)
    refine (bByte 49 bt49 B b acc 38 38 rfl _ H1.out.bld (by omega) (H1.out.size hBw)).mono ?_
    rintro e w2 ⟨rfl, q1, q2, q3⟩
    have H2 := Lib.hid (H1.out.step h0 hgb q1 q2 q3)
    clear q1 q2 q3 H1 HL
    have c0 := H2.out.c0
    go_wp2_with fail
    refine (HR1.out _ H2.out).mono ?_
    rintro e w3 ⟨rfl, q1, q2, q3⟩
    have H3 := Lib.hid (H2.out.step h0 hgb q1 q2 q3)
    clear q1 q2 q3 c0
    go_wp2_with fail
    refine (HR2.out _ H3.out).mono ?_
    rintro e w4 ⟨rfl, q1, q2, q3⟩
    have H4 := Lib.hid (H3.out.step h0 hgb q1 q2 q3)
    clear q1 q2 q3
    have c1 := H4.out.c1
    go_wp2_with fail
    refine (HR3.out _ H4.out).mono ?_
    rintro e w5 ⟨rfl, q1, q2, q3⟩
    have H5 := Lib.hid (H4.out.step h0 hgb q1 q2 q3)
    clear q1 q2 q3 c1
    go_wp2
    go_end0
    exact ⟨rfl, by rw [← HT.out]; exact H5.out.bld, H5.out.bel, H5.out.kept⟩
end Go.Proofs.YtnjnhgeafbofkaaDoor
