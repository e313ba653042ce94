import Derived.Test.YtikdncmgppckfaaDoorPB
import Derived.RangeFuncNested
import Derived.Test.YtikdncmgppckfaaDoorRP
import Derived.Test.YtikdncmgppckfaaDoorPctD
import Derived.Test.YtikdncmgppckfaaDoorUtfI
/-
  Plain words for lists of pairs of texts, where they lie, and the contracts of the two predicates (a pair that is too long, a pair of a name) and of slices.IndexFunc and ContainsFunc with them. No conditions but that a list's length fits.
-/
namespace Go.Proofs.YtikdncmgppckfaaDoor
open Go.RowKit
/-- a pair of texts -/
abbrev Fd := ByteArray × ByteArray
def encF (x : Fd) : List Value := [.string x.1, .string x.2]
/-- the slice v reads in w as the list l of pairs -/
def Lst (w : World) (v : Value) (l : List Fd) : Prop :=
  ∃ (p : Option Addr) (cap : Nat), v = .slice p l.length cap ∧ ∀ i x, l[i]? = some x → ∃ g o, p = some ⟨g, o, none⟩ ∧ g < w.heap.size ∧ w.cell? ⟨g, o + i * 2, none⟩ = some (.string x.1) ∧ w.cell? ⟨g, o + i * 2 + 1, none⟩ = some (.string x.2)
theorem Lst.below {w w' : World} {v : Value} {l : List Fd} (h : Lst w v l) (hb : Below w.heap.size w w') : Lst w' v l := by
  obtain ⟨p, cap, hv, hc⟩ := h
  refine ⟨p, cap, hv, fun i x hi => ?_⟩
  obtain ⟨g, o, hp, hg, h1, h2⟩ := hc i x hi
  exact ⟨g, o, hp, Nat.lt_of_lt_of_le hg hb.size, (hb.cell (p := ⟨g, o + i * 2, none⟩) hg).trans h1, (hb.cell (p := ⟨g, o + i * 2 + 1, none⟩) hg).trans h2⟩
theorem getF {l : List Fd} {k : Nat} (h : k < l.length) : l[k]? = some l[k] := List.getElem?_eq_getElem h
/-- the pair's texts are of at most 4096 bytes each -/
def longF (x : Fd) : Bool := decide (4096 < x.1.size) || decide (4096 < x.2.size)
set_option maxHeartbeats 400000 in
theorem long_is (a b : ByteArray) (w : World) : Calls Tryd.prog 24 #[.agg #[.string a, .string b]] w fun e w' => e = .returned (.bool (longF (a, b))) ∧ Below w.heap.size w w' := by
  have hb := bnew w (.cells #[.string a, .string b] 38)
  have HB := Lib.hid hb
  have h0 : (w.alloc (.cells #[.string a, .string b] 38)).cell? ⟨w.heap.size, 0, none⟩ = some (.string a) := cell_of_row _ _ 0 _ _ _ (heap_alloc_new w _)
  have h1 : (w.alloc (.cells #[.string a, .string b] 38)).cell? ⟨w.heap.size, 1, none⟩ = some (.string b) := cell_of_row _ _ 1 _ _ _ (heap_alloc_new w _)
  clear hb
  by_cases ha : 4096 < a.size
  · have HR := Lib.hid (show longF (a, b) = true by simp [longF, ha])
    have g1 : decide ((4096 : Int) < (a.size : Int)) = true := by simp; omega
    go_enter Tryd.func24, Tryd.ntmps24
    go_wp2
    go_ret
    exact ⟨ret_bool HR.out.symm, HB.out⟩
  · have HR := Lib.hid (show longF (a, b) = decide ((4096 : Int) < (b.size : Int)) by simp [longF, ha]; omega)
    have g1 : decide ((4096 : Int) < (a.size : Int)) = false := by simp; omega
    go_enter Tryd.func24, Tryd.ntmps24
    go_wp2
    go_ret
    exact ⟨ret_bool HR.out.symm, HB.out⟩
/-- what IndexFunc answers -/
def idxI (p : Fd → Bool) (l : List Fd) : Int := match l.findIdx? p with
  | some i => i
  | none => -1
theorem idx_none {p : Fd → Bool} {l : List Fd} (h : ∀ (j : Nat) (x : Fd), l[j]? = some x → p x = false) : idxI p l = -1 := by
  have : l.findIdx? p = none := by
    rw [List.findIdx?_eq_none_iff]
    intro x hx
    obtain ⟨j, hj, rfl⟩ := List.getElem_of_mem hx
    exact h j _ (getF hj)
  simp [idxI, this]
theorem idx_some {p : Fd → Bool} {l : List Fd} {k : Nat} (hk : k < l.length) (h : ∀ (j : Nat) (x : Fd), j < k → l[j]? = some x → p x = false) (h1 : p l[k] = true) : idxI p l = k := by
  have : l.findIdx? p = some k := by
    rw [List.findIdx?_eq_some_iff_getElem]
    refine ⟨hk, h1, fun j hj => ?_⟩
    have := h j _ hj (getF (by omega))
    simp [this]
  simp [idxI, this]
set_option maxHeartbeats 1000000 in
theorem indexLong (v : Value) (l : List Fd) (r : Int) (hr : idxI longF l = r) (hm : l.length ≤ 140737488355328) (w : World) (hv : Lst w v l) :
    Calls Tryd.prog 33 #[v, .func (.func 24) #[] #[]] w fun e w' => e = .returned (.int .i64 r) ∧ Below w.heap.size w w' := by
  obtain ⟨p, cap, rfl, hA⟩ := hv
  have HA := Lib.hid hA
  have HR := Lib.hid hr
  clear hA hr
  go_enter Tryd.func33, Tryd.ntmps33
  go_wp2_with fail
  go_loopw [8] (fun i wr => ∃ k : Nat, k ≤ l.length ∧ i = .int .i64 k ∧ Hid (∀ (j : Nat) (x : Fd), j < k → l[j]? = some x → longF x = false) ∧ Below w.heap.size w wr) (fun i _ => l.length - (intOf i).toNat)
  case atStart => exact ⟨0, by omega, rfl, Lib.hid (by intro j x hj; omega), Below.refl _ _⟩
  case round =>
    obtain ⟨k, hk, rfl, HE, hbel⟩ := hrel
    by_cases hlt : k < l.length
    · obtain ⟨g, o, rfl, hg, hx, hy⟩ := HA.out k l[k] (getF hlt)
      have hx2 := (hbel.cell (p := ⟨g, o + k * 2, none⟩) hg).trans hx
      have hy2 := (hbel.cell (p := ⟨g, o + k * 2 + 1, none⟩) hg).trans hy
      have i1 : (k : Int) < (l.length : Int) := by omega
      have HB := Lib.hid hbel
      have HS := Lib.hid (show longF l[k] = true → idxI longF l = k from fun e => idx_some hlt HE.out e)
      have HN := Lib.hid (show longF l[k] = false → ∀ (j : Nat) (x : Fd), j < k + 1 → l[j]? = some x → longF x = false from fun e j x hj hxx => by
        by_cases hjk : j = k
        · subst hjk; rw [getF hlt] at hxx; cases hxx; exact e
        · exact HE.out j x (by omega) hxx)
      clear hx hy hbel HE
      generalize l[k] = f at *
      obtain ⟨a, b⟩ := f
      go_wp2_with fail
      refine (long_is a b _).mono ?_
      rintro e w1 ⟨rfl, hb1⟩
      have HB1 := Lib.hid (bel2 HB.out hb1)
      clear hb1
      cases hl : longF (a, b) with
      | true =>
        go_wp2
        go_ret
        exact ⟨ret_int (by rw [← HR.out, HS.out hl]), HB1.out⟩
      | false =>
        go_wp2
        go_roundw
        case rel => exact ⟨k + 1, by omega, by go_num, Lib.hid (HN.out hl), HB1.out⟩
        case measure => simp [intOf]; omega
    · have HD := Lib.hid (show idxI longF l = -1 from idx_none fun j x hj => HE.out j x (by have := (List.getElem?_eq_some_iff.1 hj).1; omega) hj)
      go_wp2
      go_ret
      exact ⟨ret_int (by rw [← HR.out, HD.out]), hbel⟩
theorem idx_geq (p : Fd → Bool) (l : List Fd) : decide (0 ≤ idxI p l) = l.any p := by
  rw [Bool.eq_iff_iff, decide_eq_true_eq]
  unfold idxI
  cases h : l.findIdx? p with
  | some i =>
    have h2 := List.findIdx?_eq_some_iff_getElem.1 h
    obtain ⟨hi, h3, _⟩ := h2
    simp only [List.any_eq_true]
    exact ⟨fun _ => ⟨_, List.getElem_mem hi, h3⟩, fun _ => by omega⟩
  | none =>
    rw [List.findIdx?_eq_none_iff] at h
    simp only [List.any_eq_true]
    constructor
    · intro h; omega
    · rintro ⟨x, hx, hp⟩; rw [h x hx] at hp; cases hp
set_option maxHeartbeats 400000 in
theorem anyLong (v : Value) (l : List Fd) (b : Bool) (hb : l.any longF = b) (hm : l.length ≤ 140737488355328) (w : World) (hv : Lst w v l) :
    Calls Tryd.prog 25 #[v, .func (.func 24) #[] #[]] w fun e w' => e = .returned (.bool b) ∧ Below w.heap.size w w' := by
  obtain ⟨r, hr⟩ : ∃ r, idxI longF l = r := ⟨_, rfl⟩
  have HC := Lib.hid (indexLong v l r hr hm w hv)
  have HR := Lib.hid (show decide (0 ≤ r) = b by rw [← hr, idx_geq, hb])
  obtain ⟨p, cap, rfl, _⟩ := hv
  clear hr hb
  go_enter Tryd.func25, Tryd.ntmps25
  go_wp2_with (go_at_call 33; refine HC.out.mono ?_; rintro e w1 ⟨rfl, hb1⟩)
  go_ret
  exact ⟨ret_bool HR.out, hb1⟩
end Go.Proofs.YtikdncmgppckfaaDoor
/-
  The contracts of query's writer: text and pair append what a text, a pair is written as; plain words for what that is.
-/
namespace Go.Proofs.YtikdncmgppckfaaDoor
open Go.RowKit
/-- bytealg's MaxLen has been set -/
def ML (w : World) : Prop := ∃ m, w.cell? ⟨0, 0, none⟩ = some (.int .i64 m)
theorem ML.to {w w' : World} (h : ML w) (hb : Below w.heap.size w w') : ML w' := by
  obtain ⟨m, hm⟩ := h
  exact ⟨m, (hb.cell (p := ⟨0, 0, none⟩) (World.block_lt_of_cell? _ _ hm)).trans hm⟩
theorem ML.drew {w : World} (h : ML w) : ML w.drew := h
theorem rplK_len (old new : List UInt8) (hle : new.length ≤ old.length) : ∀ (k : Nat) (s : List UInt8), (Lib.replaceK old new k s).length ≤ s.length
  | 0, s => Nat.le_refl _
  | k + 1, s => by
    by_cases h : ∃ i : Nat, Lib.index s old = i
    · obtain ⟨i, hi⟩ := h
      have hr := Lib.index_room s old (by rw [hi]; omega)
      rw [hi] at hr
      rw [Lib.replaceK_hit old new k s i hi]
      have ih := rplK_len old new hle k (s.drop (i + old.length))
      simp only [List.length_append, List.length_take, List.length_drop] at ih ⊢
      omega
    · unfold Lib.replaceK
      have hge := Lib.index_ge s old
      rw [if_pos (beq_iff_eq.2 (by
        by_cases h0 : 0 ≤ Lib.index s old
        · exact absurd ⟨(Lib.index s old).toNat, by omega⟩ h
        · omega))]
      exact Nat.le_refl _
theorem rpl_len (old new l : List UInt8) (hle : new.length ≤ old.length) : (rpl old new l).length ≤ l.length := rplK_len old new hle _ l
theorem scal_len (l : List UInt8) : (U.scal l).length ≤ 4 * l.length := by
  have h1 := U.enc_len (U.runesZ l)
  have h2 := (U.runes_count l).1
  unfold U.scal; omega
theorem kept_below {e : TypeId} {b : Option Nat} {w w' : World} (h : Below w.heap.size w w') : Lib.OthersKept e b w w' :=
  fun k o hk _ _ => (h.block k (lt_of_block hk)).trans hk
/-- what a text is written as -/
def wrT (l : List UInt8) : List UInt8 := rpl [37, 50, 48] [43] (M.enc 8 (U.scal l))
/-- what a pair is written as, behind what there is -/
def wrP (x : Fd) (acc : List UInt8) : List UInt8 := (if acc = [] then [] else acc ++ [38]) ++ wrT x.1.data.toList ++ [61] ++ wrT x.2.data.toList
theorem IsB.later {T : TypeId} {B b : Nat} {l : List UInt8} {w w' : World} (h : IsB T B b l w) (hb : Below w.heap.size w w') : IsB T B b l w' := by
  have key : ∀ p, Lib.BuilderAtF T 5 B b p (Lib.byteCells l) w → Lib.BuilderAtF T 5 B b p (Lib.byteCells l) w' := by
    rintro p ⟨hB, v, hbk, ⟨hn, hown⟩, hne⟩
    refine ⟨hB, v, (hb.block b (lt_of_block hbk)).trans hbk, ⟨hn, ?_⟩, hne⟩
    rcases hown with h | ⟨g, cap, cur, fz, hv, hBg, hg, rest⟩
    · exact .inl h
    · exact .inr ⟨g, cap, cur, fz, hv, hBg, (hb.block g (lt_of_block hg)).trans hg, rest⟩
  exact h.elim (fun x => .inl (key _ x)) (fun x => .inr (key _ x))
theorem IsB.lt {T : TypeId} {B b : Nat} {l : List UInt8} {w : World} (h : IsB T B b l w) : b < w.heap.size := h.elim (fun x => x.lt) (fun x => x.lt)
set_option maxHeartbeats 2000000 in
theorem text_is (B b : Nat) (acc : List UInt8) (s : ByteArray) (T : List UInt8) (hT : wrT s.data.toList = T) (hs : s.size ≤ 4096) (w : World) (hB : IsB 49 B b acc w) (hacc : acc.length ≤ 70368744177664) (hBw : B ≤ w.heap.size) (hM : ML w) :
    Calls Tryd.prog 46 #[.pointer (some ⟨b, 0, none⟩), .string s] w fun e w' => e = .returned (.tuple #[]) ∧ IsB 49 B b (acc ++ T) w' ∧ Below B w w' ∧ Lib.OthersKept 5 (some b) w w' := by
  have hS := scal_len s.data.toList
  rw [len_list] at hS
  obtain ⟨S, hS1⟩ : ∃ S, U.scal s.data.toList = S := ⟨_, rfl⟩
  have HS := Lib.hid (scalar_is s S hS1 (by omega) w)
  have hl : (M.enc 8 S).length ≤ 3 * S.length := enc_len 8 S
  rw [hS1] at hS
  have hT2 : rpl [37, 50, 48] [43] (M.enc 8 S) = T := by rw [← hT, wrT, hS1]
  have hl2 := rpl_len [37, 50, 48] [43] (M.enc 8 S) (by simp)
  have hl3 : T.length ≤ 49152 := by rw [← hT2]; omega
  have HSz := Lib.hid (show (⟨S.toArray⟩ : ByteArray).size ≤ 16384 by show S.toArray.size ≤ 16384; simp; omega)
  have HEz := Lib.hid (show (⟨(M.enc 8 S).toArray⟩ : ByteArray).size ≤ 49152 by show (M.enc 8 S).toArray.size ≤ 49152; simp; omega)
  have HTz := Lib.hid (show (⟨T.toArray⟩ : ByteArray).size = T.length by show T.toArray.size = _; simp)
  have HM := Lib.hid hM
  have HT2 := Lib.hid hT2
  have HB := Lib.hid hB
  have hblt := hB.lt
  clear hT hS1 hM hT2 hB hl hl2 hS
  go_enter Tryd.func46, Tryd.ntmps46
  go_wp2_with (go_at_call 51; refine HS.out.mono ?_; rintro e w1 ⟨rfl, hb1⟩)
  have HB1 := Lib.hid hb1
  have HE := Lib.hid (encode_any ⟨S.toArray⟩ (by have := HSz.out; omega) 8 (by omega) (by omega) w1)
  clear hb1
  go_wp2_with (go_at_call 66; refine HE.out.mono ?_; rintro e w2 ⟨rfl, hb2⟩)
  have HB2 := Lib.hid (bel2 HB1.out hb2)
  clear hb2
  obtain ⟨m, hm⟩ := HM.out.to HB2.out
  have HR := Lib.hid (replaceAll_is ⟨(M.enc 8 S).toArray⟩ ⟨#[37, 50, 48]⟩ ⟨#[43]⟩ T HT2.out m w2.drew (by have := HEz.out; omega) hm (by decide) (by decide) (by decide))
  clear hm
  have H67 := Lib.hid (show ∀ w3, Below w2.heap.size w2.drew w3 → Calls Tryd.prog 67 #[.pointer (some ⟨b, 0, none⟩), .string ⟨T.toArray⟩] w3 fun e w' => e = .returned (.tuple #[.int .i64 T.length, .nilIface]) ∧ IsB 49 B b (acc ++ T) w' ∧ Below B w w' ∧ Lib.OthersKept 5 (some b) w w' from fun w3 h3 => by
    have z2 := HB2.out.size
    have z3 := h3.size
    have z4 : w2.drew.heap.size = w2.heap.size := rfl
    have hb : IsB 49 B b acc w2.drew := HB.out.later HB2.out.drew
    have h := bStr 49 bt49 B b acc ⟨T.toArray⟩ w3 (hb.later h3) (by rw [HTz.out]; omega) (by omega)
    refine h.mono fun e w' ⟨he, hb4, hbel4, hk4⟩ => ⟨by rw [he, HTz.out], hb4, ((HB2.out.drew.trans (h3.mono z2)).mono hBw).trans hbel4, (kept_below (HB2.out.drew.trans (h3.mono z2))).trans hk4⟩)
  clear HB
  go_region_with (first
    | (go_at_call 53; refine HR.out.mono ?_; rintro e w3 ⟨rfl, hb3⟩; have HB3 := Lib.hid hb3; clear hb3)
    | (go_at_call 67; refine (H67.out _ HB3.out).mono ?_; rintro e w4 ⟨rfl, hb4, hbel4, hk4⟩))
  all_goals go_wp2
  all_goals go_end0
  all_goals exact ⟨rfl, hb4, hbel4, hk4⟩
end Go.Proofs.YtikdncmgppckfaaDoor
/-
  The contract of query's Print: it answers the plain function's text, ErrMany past 256 pairs, ErrLong past 4096 bytes of a text. Conditions: the list's length fits.
-/
namespace Go.Proofs.YtikdncmgppckfaaDoor
open Go.RowKit
theorem wrT_len (l : List UInt8) (n : Nat) (h : l.length ≤ n) : (wrT l).length ≤ 12 * n := by
  have h1 := rpl_len [37, 50, 48] [43] (M.enc 8 (U.scal l)) (by simp)
  have h2 := enc_len 8 (U.scal l)
  have h3 := scal_len l
  unfold wrT; omega
theorem kept_has {b g : Nat} {w w' : World} {cs : Array Value} {t : TypeId} (h : Lib.OthersKept 5 (some b) w w') (hg : Has w g (.cells cs t)) (hne : g ≠ b) (ht : t ≠ 5) : Has w' g (.cells cs t) :=
  h g _ hg (fun e => hne (by simpa using e)) (fun c fz e => by injection e with _ e _; exact ht e)
theorem ML.kept {w w' : World} {B : Nat} (h : ML w) (hb : Below B w w') (h0 : 0 < B) : ML w' := by
  obtain ⟨m, hm⟩ := h
  exact ⟨m, (hb.cell (p := ⟨0, 0, none⟩) h0).trans hm⟩
/-- the writer at b holds A, the pair's box at g is as it was, nothing below B and no other block has been changed since w -/
structure St (B b g : Nat) (x y : ByteArray) (w : World) (A : List UInt8) (wX : World) : Prop where
  bld : IsB 49 B b A wX
  bel : Below B w wX
  kept : Lib.OthersKept 5 (some b) w wX
  box : Has wX g (.cells #[.string x, .string y] 38)
  ml : ML wX
theorem St.step {B b g : Nat} {x y : ByteArray} {w wX w' : World} {A A' : List UInt8} (h : St B b g x y w A wX) (h0 : 0 < B) (hg : g ≠ b) (h1 : IsB 49 B b A' w') (h2 : Below B wX w') (h3 : Lib.OthersKept 5 (some b) wX w') : St B b g x y w A' w' :=
  ⟨h1, h.bel.trans h2, h.kept.trans h3, kept_has h3 h.box hg (by decide), h.ml.kept h2 h0⟩
theorem St.size {B b g : Nat} {x y : ByteArray} {w wX : World} {A : List UInt8} (h : St B b g x y w A wX) (hBw : B ≤ w.heap.size) : B ≤ wX.heap.size := Nat.le_trans hBw h.bel.size
theorem St.c0 {B b g : Nat} {x y : ByteArray} {w wX : World} {A : List UInt8} (h : St B b g x y w A wX) : wX.cell? ⟨g, 0, none⟩ = some (.string x) := h.box.cell 0 rfl
theorem St.c1 {B b g : Nat} {x y : ByteArray} {w wX : World} {A : List UInt8} (h : St B b g x y w A wX) : wX.cell? ⟨g, 1, none⟩ = some (.string y) := h.box.cell 1 rfl
set_option maxHeartbeats 2000000 in
theorem pair_is (B b : Nat) (acc : List UInt8) (x y : ByteArray) (T : List UInt8) (hT : wrP (x, y) acc = T) (hx : x.size ≤ 4096) (hy : y.size ≤ 4096) (w : World) (hB : IsB 49 B b acc w) (hacc : acc.length ≤ 35184372088832) (hBw : B ≤ w.heap.size) (hM : ML w) (h0 : 0 < B) :
    Calls Tryd.prog 26 #[.pointer (some ⟨b, 0, none⟩), .agg #[.string x, .string y]] w fun e w' => e = .returned (.tuple #[]) ∧ IsB 49 B b T w' ∧ Below B w w' ∧ Lib.OthersKept 5 (some b) w w' := by
  have hblt := hB.lt
  obtain ⟨w1, hw1⟩ : ∃ w1, w1 = w.alloc (.cells #[.string x, .string y] 38) := ⟨_, rfl⟩
  have hb1 : Below B w w1 := by rw [hw1]; exact (Below.refl B w).alloc hBw _
  have S1 : St B b w.heap.size x y w acc w1 := ⟨by rw [hw1]; exact hB.later (bnew _ _), hb1, by rw [hw1]; exact (Lib.OthersKept.refl _ _ w).alloc _, by rw [hw1]; exact Has.new _ _, hM.kept hb1 h0⟩
  have HX := Lib.hid (wrT_len x.data.toList 4096 (by rw [len_list]; exact hx))
  have HY := Lib.hid (wrT_len y.data.toList 4096 (by rw [len_list]; exact hy))
  have HL := Lib.hid (bLen 49 B b acc w1 S1.bld)
  have hgb : w.heap.size ≠ b := by omega
  obtain ⟨A, hA⟩ : ∃ A, (if acc = [] then [] else acc ++ [38]) = A := ⟨_, rfl⟩
  have hAl : A.length ≤ acc.length + 1 := by
    rw [← hA]
    by_cases h : acc = []
    · rw [if_pos h]; simp
    · rw [if_neg h]; simp
  obtain ⟨X, hX⟩ : ∃ X, wrT x.data.toList = X := ⟨_, rfl⟩
  obtain ⟨Y, hY⟩ : ∃ Y, wrT y.data.toList = Y := ⟨_, rfl⟩
  have HT := Lib.hid (show A ++ X ++ [61] ++ Y = T by rw [← hT, wrP, hA, hX, hY])
  rw [hX] at HX
  rw [hY] at HY
  have H1 := Lib.hid S1
  have HW1 := Lib.hid hw1
  clear hB hM hT hb1 S1 hw1
  -- what comes behind the sign &
  have HR1 := Lib.hid (fun (w2 : World) (S2 : St B b w.heap.size x y w A w2) => text_is B b A x X hX hx w2 S2.bld (by omega) (S2.size hBw) S2.ml)
  have HR2 := Lib.hid (fun (w2 : World) (S2 : St B b w.heap.size x y w (A ++ X) w2) => bByte 49 bt49 B b (A ++ X) 61 61 rfl w2 S2.bld (by have := HX.out; simp only [List.length_append]; omega) (S2.size hBw))
  have HR3 := Lib.hid (fun (w2 : World) (S2 : St B b w.heap.size x y w (A ++ X ++ [61]) w2) => text_is B b (A ++ X ++ [61]) y Y hY hy w2 S2.bld (by have := HX.out; simp only [List.length_append, List.length_cons, List.length_nil]; omega) (S2.size hBw) S2.ml)
  clear HX HY hX hY hx hy
  by_cases hn : acc = []
  · subst hn
    have hA0 : A = [] := by rw [← hA]; rfl
    subst hA0
    clear hA
    go_enter Tryd.func26, Tryd.ntmps26
    have c0 := H1.out.c0
    go_wp2_with (go_at_call 44; rw [← HW1.out]; refine HL.out.mono ?_; rintro e w2 ⟨rfl, rfl⟩)
    refine (HR1.out _ H1.out).mono ?_
    rintro e w3 ⟨rfl, q1, q2, q3⟩
    have H3 := Lib.hid (H1.out.step h0 hgb q1 q2 q3)
    clear q1 q2 q3 c0
    go_wp2_with fail
    refine (HR2.out _ H3.out).mono ?_
    rintro e w4 ⟨rfl, q1, q2, q3⟩
    have H4 := Lib.hid (H3.out.step h0 hgb q1 q2 q3)
    clear q1 q2 q3
    have c1 := H4.out.c1
    go_wp2_with fail
    refine (HR3.out _ H4.out).mono ?_
    rintro e w5 ⟨rfl, q1, q2, q3⟩
    have H5 := Lib.hid (H4.out.step h0 hgb q1 q2 q3)
    clear q1 q2 q3 c1
    go_wp2
    go_end0
    exact ⟨rfl, by rw [← HT.out]; exact H5.out.bld, H5.out.bel, H5.out.kept⟩
  · have hl0 : 0 < acc.length := List.length_pos_iff.2 hn
    have hA0 : A = acc ++ [38] := by rw [← hA, if_neg hn]
    subst hA0
    clear hA
    go_enter Tryd.func26, Tryd.ntmps26
    go_wp2_with (go_at_call 44; rw [← HW1.out]; refine HL.out.mono ?_; rintro e w2 ⟨rfl, rfl⟩)
    refine (bByte 49 bt49 B b acc 38 38 rfl _ H1.out.bld (by omega) (H1.out.size hBw)).mono ?_
    rintro e w2 ⟨rfl, q1, q2, q3⟩
    have H2 := Lib.hid (H1.out.step h0 hgb q1 q2 q3)
    clear q1 q2 q3 H1 HL
    have c0 := H2.out.c0
    go_wp2_with fail
    refine (HR1.out _ H2.out).mono ?_
    rintro e w3 ⟨rfl, q1, q2, q3⟩
    have H3 := Lib.hid (H2.out.step h0 hgb q1 q2 q3)
    clear q1 q2 q3 c0
    go_wp2_with fail
    refine (HR2.out _ H3.out).mono ?_
    rintro e w4 ⟨rfl, q1, q2, q3⟩
    have H4 := Lib.hid (H3.out.step h0 hgb q1 q2 q3)
    clear q1 q2 q3
    have c1 := H4.out.c1
    go_wp2_with fail
    refine (HR3.out _ H4.out).mono ?_
    rintro e w5 ⟨rfl, q1, q2, q3⟩
    have H5 := Lib.hid (H4.out.step h0 hgb q1 q2 q3)
    clear q1 q2 q3 c1
    go_wp2
    go_end0
    exact ⟨rfl, by rw [← HT.out]; exact H5.out.bld, H5.out.bel, H5.out.kept⟩
end Go.Proofs.YtikdncmgppckfaaDoor
/-
  The contract of query's Print: it answers the plain function's text, ErrMany past 256 pairs, ErrLong past 4096 bytes of a text; nothing that was there is changed. Conditions: the list's length fits.
-/
namespace Go.Proofs.YtikdncmgppckfaaDoor
open Go.RowKit
/-- what a list of pairs is written as, pair by pair -/
def prL (l : List Fd) : List UInt8 := l.foldl (fun acc x => wrP x acc) []
theorem prL_snoc (l : List Fd) (k : Nat) (h : k < l.length) : prL (l.take (k + 1)) = wrP l[k] (prL (l.take k)) := by
  unfold prL
  rw [take_snoc l k h, List.foldl_append]; rfl
theorem wrP_len (x : Fd) (acc : List UInt8) (h : longF x = false) : (wrP x acc).length ≤ acc.length + 100000 := by
  simp only [longF, Bool.or_eq_false_iff, decide_eq_false_iff_not] at h
  have h1 := wrT_len x.1.data.toList 4096 (by rw [len_list]; omega)
  have h2 := wrT_len x.2.data.toList 4096 (by rw [len_list]; omega)
  have h3 : (if acc = [] then [] else acc ++ [38]).length ≤ acc.length + 1 := by
    by_cases h : acc = []
    · rw [if_pos h]; simp
    · rw [if_neg h]; simp
  unfold wrP
  simp only [List.length_append, List.length_cons, List.length_nil]
  omega
theorem prL_len (l : List Fd) (h : ∀ x ∈ l, longF x = false) (k : Nat) : (prL (l.take k)).length ≤ k * 100000 := by
  induction k with
  | zero => simp [prL]
  | succ k ih =>
    rw [Nat.succ_mul]
    by_cases hk : k < l.length
    · rw [prL_snoc l k hk]
      exact Nat.le_trans (wrP_len l[k] (prL (l.take k)) (h _ (List.getElem_mem hk))) (Nat.add_le_add_right ih _)
    · have e : l.take (k + 1) = l.take k := by rw [List.take_of_length_le (by omega), List.take_of_length_le (by omega)]
      rw [e]
      exact Nat.le_trans ih (Nat.le_add_right _ _)
theorem ret_se {a b : ByteArray} {x y : Int} (h : a = b) (h2 : x = y) : Ending.returned (.tuple #[.string a, .int .i64 x]) = Ending.returned (.tuple #[.string b, .int .i64 y]) := by rw [h, h2]
set_option maxHeartbeats 1000000 in
theorem print_many (v : Value) (l : List Fd) (hm : l.length ≤ 140737488355328) (hl : 256 < l.length) (w : World) (hv : Lst w v l) :
    Calls Tryd.prog 9 #[v] w fun e w' => e = .returned (.tuple #[.string ⟨#[]⟩, .int .i64 3]) ∧ Below w.heap.size w w' := by
  obtain ⟨p, cap, rfl, _⟩ := hv
  have g1 : decide ((256 : Int) < (l.length : Int)) = true := by simp; omega
  go_enter Tryd.func9, Tryd.ntmps9
  go_wp2
  go_ret2
  exact ⟨rfl, Below.refl _ _⟩
set_option maxHeartbeats 1000000 in
theorem print_long (v : Value) (l : List Fd) (hm : l.length ≤ 140737488355328) (hl : l.length ≤ 256) (hL : l.any longF = true) (w : World) (hv : Lst w v l) :
    Calls Tryd.prog 9 #[v] w fun e w' => e = .returned (.tuple #[.string ⟨#[]⟩, .int .i64 4]) ∧ Below w.heap.size w w' := by
  have HA := Lib.hid (anyLong v l true hL hm w hv)
  obtain ⟨p, cap, rfl, _⟩ := hv
  have g1 : decide ((256 : Int) < (l.length : Int)) = false := by simp; omega
  clear hL
  go_enter Tryd.func9, Tryd.ntmps9
  go_wp2_with fail
  refine HA.out.mono ?_
  rintro e w1 ⟨rfl, hb1⟩
  go_wp2
  go_ret2
  exact ⟨rfl, hb1⟩
set_option maxHeartbeats 2000000 in
theorem print_ok (v : Value) (l : List Fd) (T : List UInt8) (hT : prL l = T) (hl : l.length ≤ 256) (hL : l.any longF = false) (w : World) (hM : ML w) (hv : Lst w v l) :
    Calls Tryd.prog 9 #[v] w fun e w' => e = .returned (.tuple #[.string ⟨T.toArray⟩, .int .i64 0]) ∧ Below w.heap.size w w' := by
  have HA := Lib.hid (anyLong v l false hL (by omega) w hv)
  obtain ⟨p, cap, rfl, hc⟩ := hv
  have HS := Lib.hid (show ∀ x ∈ l, longF x = false from by
    intro x hx
    cases h : longF x with
    | false => rfl
    | true => rw [List.any_eq_true.2 ⟨x, hx, h⟩] at hL; cases hL)
  have HC := Lib.hid hc
  have HT := Lib.hid hT
  have HM := Lib.hid hM
  have g1 : decide ((256 : Int) < (l.length : Int)) = false := by simp; omega
  have hw0 : 0 < w.heap.size := by obtain ⟨m, hm⟩ := hM; exact World.block_lt_of_cell? _ _ hm
  clear hL hc hT hM
  go_enter Tryd.func9, Tryd.ntmps9
  go_wp2_with fail
  refine HA.out.mono ?_
  rintro e w1 ⟨rfl, hb1⟩
  have hs1 := hb1.size
  have HB1 := Lib.hid hb1
  have HIs := Lib.hid (show IsB 49 w1.heap.size w1.heap.size [] (w1.alloc (.cells #[.pointer none, .slice none 0 0] 49)) from
    .inl ⟨Nat.le_refl _, .slice none 0 0, heap_alloc_new w1 _, World.ownsRowF_of (World.ownsRow_nil _ _ _ _), by simp [Value.ownBlock]⟩)
  have HBE := Lib.hid (bnew w1 (.cells #[.pointer none, .slice none 0 0] 49))
  clear hb1 HA
  go_wp2_with fail
  go_loopw [18] (fun i wr => ∃ k : Nat, k ≤ l.length ∧ i = .int .i64 k ∧ Hid (IsB 49 w1.heap.size w1.heap.size (prL (l.take k)) wr) ∧ Hid (Below w1.heap.size w1 wr)) (fun i _ => l.length - (intOf i).toNat)
  case atStart => exact ⟨0, by omega, rfl, HIs, HBE⟩
  case round =>
    obtain ⟨k, hk, rfl, HIB, HBW⟩ := hrel
    have hsr := HBW.out.size
    by_cases hlt : k < l.length
    · obtain ⟨g, o, rfl, hg, hx, hy⟩ := HC.out k l[k] (getF hlt)
      have hbw : Below w.heap.size w wr := HB1.out.trans (HBW.out.mono (by omega))
      have hx2 := (hbw.cell (p := ⟨g, o + k * 2, none⟩) hg).trans hx
      have hy2 := (hbw.cell (p := ⟨g, o + k * 2 + 1, none⟩) hg).trans hy
      have i1 : (k : Int) < (l.length : Int) := by omega
      have HP := Lib.hid (prL_snoc l k hlt)
      have HK := Lib.hid (prL_len l HS.out k)
      have HS1 := Lib.hid (HS.out l[k] (List.getElem_mem hlt))
      have HMr := Lib.hid (HM.out.to hbw)
      clear hx hy hbw
      generalize l[k] = f at *
      obtain ⟨x, y⟩ := f
      have HXY := Lib.hid (show x.size ≤ 4096 ∧ y.size ≤ 4096 from by
        have := HS1.out
        simp only [longF, Bool.or_eq_false_iff, decide_eq_false_iff_not] at this
        omega)
      go_wp2_with fail
      refine (pair_is w1.heap.size w1.heap.size (prL (l.take k)) x y _ rfl HXY.out.1 HXY.out.2 _ (HIB.out.later (bnew _ _)) (by have := HK.out; omega) (by simp; omega) (HMr.out.to (bnew _ _)) (by omega)).mono ?_
      rintro e w3 ⟨rfl, q1, q2, _⟩
      have H1 := Lib.hid q1
      have H2 := Lib.hid ((HBW.out.alloc (by omega) (.cells #[.string x, .string y] 38)).trans q2)
      clear q1 q2
      go_wp2
      go_roundw
      case rel => exact ⟨k + 1, by omega, by go_num, Lib.hid (by rw [HP.out]; exact H1.out), H2⟩
      case measure => simp [intOf]; omega
    · have HD := Lib.hid (show prL (l.take k) = T by rw [List.take_of_length_le (by omega)]; exact HT.out)
      have HIB2 := Lib.hid (show IsB 49 w1.heap.size w1.heap.size T wr by rw [← HD.out]; exact HIB.out)
      go_wp2_with fail
      refine (bString 49 w1.heap.size w1.heap.size T wr HIB2.out (by omega)).mono ?_
      rintro e w3 ⟨rfl, q2, _⟩
      have H2 := Lib.hid (HBW.out.trans q2)
      clear q2
      go_wp2
      go_ret2
      exact ⟨rfl, HB1.out.trans (H2.out.mono hs1)⟩
theorem print_any (v : Value) (l : List Fd) (hm : l.length ≤ 140737488355328) (w : World) (hM : ML w) (hv : Lst w v l) (T : List UInt8) (r : Int)
    (h : (if 256 < l.length then ([], 3) else if l.any longF then ([], 4) else (prL l, 0)) = (T, r)) :
    Calls Tryd.prog 9 #[v] w fun e w' => e = .returned (.tuple #[.string ⟨T.toArray⟩, .int .i64 r]) ∧ Below w.heap.size w w' := by
  by_cases h1 : 256 < l.length
  · rw [if_pos h1] at h; injection h with ha hb; subst ha; subst hb
    exact print_many v l hm h1 w hv
  · rw [if_neg h1] at h
    cases h2 : l.any longF with
    | true => rw [if_pos h2] at h; injection h with ha hb; subst ha; subst hb; exact print_long v l hm (by omega) h2 w hv
    | false => rw [if_neg (by rw [h2]; simp)] at h; injection h with ha hb; subst hb; exact print_ok v l T ha (by omega) h2 w hM hv
end Go.Proofs.YtikdncmgppckfaaDoor
/-
  The contract of query's read: what a text of at most 65536 bytes is read as; nothing that was there is changed.
-/
namespace Go.Proofs.YtikdncmgppckfaaDoor
open Go.RowKit
theorem dec_len (n : Nat) : ∀ l : List UInt8, l.length ≤ n → (M.dec l).length ≤ l.length := by
  induction n with
  | zero => intro l hl; have : l = [] := List.eq_nil_of_length_eq_zero (by omega); subst this; exact Nat.le_refl _
  | succ n ih =>
    intro l hl
    cases l with
    | nil => exact Nat.le_refl _
    | cons c r =>
      simp only [List.length_cons] at hl
      cases h : M.escL (c :: r) with
      | none =>
        rw [M.dec_none h]
        have := ih r (by omega)
        simp only [List.length_cons]; omega
      | some v =>
        obtain ⟨h3, e⟩ := M.dec_some h
        rw [e]
        have := ih ((c :: r).drop 3) (by simp only [List.length_drop, List.length_cons] at h3 ⊢; omega)
        simp only [List.length_cons, List.length_drop] at this h3 ⊢
        omega
/-- what a text is read as -/
def rdT (l : List UInt8) : List UInt8 := U.scal (M.dec (rpl [43] [32] l))
set_option maxHeartbeats 1000000 in
theorem read_is (s : ByteArray) (T : List UInt8) (hT : rdT s.data.toList = T) (hs : s.size ≤ 65536) (w : World) (hM : ML w) :
    Calls Tryd.prog 31 #[.string s] w fun e w' => e = .returned (.string ⟨T.toArray⟩) ∧ Below w.heap.size w w' := by
  obtain ⟨m, hm⟩ := hM
  obtain ⟨A, hA⟩ : ∃ A, rpl [43] [32] s.data.toList = A := ⟨_, rfl⟩
  obtain ⟨D, hD⟩ : ∃ D, M.dec A = D := ⟨_, rfl⟩
  have hAl : A.length ≤ 65536 := by
    have := rpl_len [43] [32] s.data.toList (by simp)
    rw [hA, len_list] at this; omega
  have hDl : D.length ≤ 65536 := by
    have := dec_len A.length A (Nat.le_refl _)
    rw [hD] at this; omega
  have HR := Lib.hid (replaceAll_is s ⟨#[43]⟩ ⟨#[32]⟩ A hA m w (by omega) hm (by decide) (by decide) (by decide))
  have HAz := Lib.hid (show (⟨A.toArray⟩ : ByteArray).size ≤ 65536 by show A.toArray.size ≤ _; simp; omega)
  have HDz := Lib.hid (show (⟨D.toArray⟩ : ByteArray).size ≤ 65536 by show D.toArray.size ≤ _; simp; omega)
  have H52 := Lib.hid (show ∀ w1, Calls Tryd.prog 52 #[.string ⟨A.toArray⟩] w1 fun e w' => e = .returned (.string ⟨D.toArray⟩) ∧ Below w1.heap.size w1 w' from fun w1 => by
    have := decode_any ⟨A.toArray⟩ (by have := HAz.out; omega) w1
    rw [show (⟨A.toArray⟩ : ByteArray).data.toList = A by simp, hD] at this
    exact this)
  have HT := Lib.hid (show U.scal (⟨D.toArray⟩ : ByteArray).data.toList = T by rw [← hT, rdT, hA, hD])
  clear hT hA hD hm
  go_enter Tryd.func31, Tryd.ntmps31
  go_wp2_with fail
  refine HR.out.mono ?_
  rintro e w1 ⟨rfl, hb1⟩
  have HB1 := Lib.hid hb1
  clear hb1
  go_wp2_with fail
  refine (H52.out _).mono ?_
  rintro e w2 ⟨rfl, hb2⟩
  have HB2 := Lib.hid (bel2 HB1.out hb2)
  clear hb2
  go_wp2_with fail
  refine (scalar_is ⟨D.toArray⟩ T HT.out (by have := HDz.out; omega) w2).mono ?_
  rintro e w3 ⟨rfl, hb3⟩
  go_wp2
  go_ret
  exact ⟨rfl, bel2 HB2.out hb3⟩
end Go.Proofs.YtikdncmgppckfaaDoor
