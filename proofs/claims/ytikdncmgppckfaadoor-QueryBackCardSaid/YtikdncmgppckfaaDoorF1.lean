/-
  The contracts of query's writer: text and pair append what a text, a pair is written as; plain words for what that is.
-/
import Derived.Test.YtikdncmgppckfaaDoorRP
import Derived.Test.YtikdncmgppckfaaDoorF0
import Derived.Test.YtikdncmgppckfaaDoorPctD
import Derived.Test.YtikdncmgppckfaaDoorUtfI
namespace Go.Proofs.YtikdncmgppckfaaDoor
open Go.RowKit
/-- bytealg's MaxLen has been set -/
def ML (w : World) : Prop := ∃ m, w.cell? ⟨0, 0, none⟩ = some (.int .i64 m)
theorem ML.to {w w' : World} (h : ML w) (hb : Below w.heap.size w w') : ML w' := by
  obtain ⟨m, hm⟩ := h
  exact ⟨m, (hb.cell (p := ⟨0, 0, none⟩) (World.block_lt_of_cell? _ _ hm)).trans hm⟩
theorem ML.drew {w : World} (h : ML w) : ML w.drew := h
theorem rplK_len (old new : List UInt8) (hle : new.length ≤ old.length) : ∀ (k : Nat) (s : List UInt8), (Lib.replaceK old new k s).length ≤ s.length
  | 0, s => Nat.le_refl _
  | k + 1, s => by
    by_cases h : ∃ i : Nat, Lib.index s old = i
    · obtain ⟨i, hi⟩ := h
      have hr := Lib.index_room s old (by rw [hi]; omega)
      rw [hi] at hr
      rw [Lib.replaceK_hit old new k s i hi]
      have ih := rplK_len old new hle k (s.drop (i + old.length))
      simp only [List.length_append, List.length_take, List.length_drop] at ih ⊢
      omega
    · unfold Lib.replaceK
      have hge := Lib.index_ge s old
      rw [if_pos (beq_iff_eq.2 (by
        by_cases h0 : 0 ≤ Lib.index s old
        · exact absurd ⟨(Lib.index s old).toNat, by omega⟩ h
        · omega))]
      exact Nat.le_refl _
theorem rpl_len (old new l : List UInt8) (hle : new.length ≤ old.length) : (rpl old new l).length ≤ l.length := rplK_len old new hle _ l
theorem scal_len (l : List UInt8) : (U.scal l).length ≤ 4 * l.length := by
  have h1 := U.enc_len (U.runesZ l)
  have h2 := (U.runes_count l).1
  unfold U.scal; omega
theorem kept_below {e : TypeId} {b : Option Nat} {w w' : World} (h : Below w.heap.size w w') : Lib.OthersKept e b w w' :=
  fun k o hk _ _ => (h.block k (lt_of_block hk)).trans hk
/-- what a text is written as -/
def wrT (l : List UInt8) : List UInt8 := rpl [37, 50, 48] [43] (M.enc 8 (U.scal l))
/-- what a pair is written as, behind what there is -/
def wrP (x : Fd) (acc : List UInt8) : List UInt8 := (if acc = [] then [] else acc ++ [38]) ++ wrT x.1.data.toList ++ [61] ++ wrT x.2.data.toList
theorem IsB.later {T : TypeId} {B b : Nat} {l : List UInt8} {w w' : World} (h : IsB T B b l w) (hb : Below w.heap.size w w') : IsB T B b l w' := by
  have key : ∀ p, Lib.BuilderAtF T 5 B b p (Lib.byteCells l) w → Lib.BuilderAtF T 5 B b p (Lib.byteCells l) w' := by
    rintro p ⟨hB, v, hbk, ⟨hn, hown⟩, hne⟩
    refine ⟨hB, v, (hb.block b (lt_of_block hbk)).trans hbk, ⟨hn, ?_⟩, hne⟩
    rcases hown with h | ⟨g, cap, cur, fz, hv, hBg, hg, rest⟩
    · exact .inl h
    · exact .inr ⟨g, cap, cur, fz, hv, hBg, (hb.block g (lt_of_block hg)).trans hg, rest⟩
  exact h.elim (fun x => .inl (key _ x)) (fun x => .inr (key _ x))
theorem IsB.lt {T : TypeId} {B b : Nat} {l : List UInt8} {w : World} (h : IsB T B b l w) : b < w.heap.size := h.elim (fun x => x.lt) (fun x => x.lt)
set_option maxHeartbeats 2000000 in
theorem text_is (B b : Nat) (acc : List UInt8) (s : ByteArray) (T : List UInt8) (hT : wrT s.data.toList = T) (hs : s.size ≤ 4096) (w : World) (hB : IsB 49 B b acc w) (hacc : acc.length ≤ 70368744177664) (hBw : B ≤ w.heap.size) (hM : ML w) :
    Calls Tryd.prog 46 #[.pointer (some ⟨b, 0, none⟩), .string s] w fun e w' => e = .returned (.tuple #[]) ∧ IsB 49 B b (acc ++ T) w' ∧ Below B w w' ∧ Lib.OthersKept 5 (some b) w w' := by
  have hS := scal_len s.data.toList
  rw [len_list] at hS
  obtain ⟨S, hS1⟩ : ∃ S, U.scal s.data.toList = S := ⟨_, rfl⟩
  have HS := Lib.hid (scalar_is s S hS1 (by omega) w)
  have hl : (M.enc 8 S).length ≤ 3 * S.length := enc_len 8 S
  rw [hS1] at hS
  have hT2 : rpl [37, 50, 48] [43] (M.enc 8 S) = T := by rw [← hT, wrT, hS1]
  have hl2 := rpl_len [37, 50, 48] [43] (M.enc 8 S) (by simp)
  have hl3 : T.length ≤ 49152 := by rw [← hT2]; omega
  have HSz := Lib.hid (show (⟨S.toArray⟩ : ByteArray).size ≤ 16384 by show S.toArray.size ≤ 16384; simp; omega)
  have HEz := Lib.hid (show (⟨(M.enc 8 S).toArray⟩ : ByteArray).size ≤ 49152 by show (M.enc 8 S).toArray.size ≤ 49152; simp; omega)
  have HTz := Lib.hid (show (⟨T.toArray⟩ : ByteArray).size = T.length by show T.toArray.size = _; simp)
  have HM := Lib.hid hM
  have HT2 := Lib.hid hT2
  have HB := Lib.hid hB
  have hblt := hB.lt
  clear hT hS1 hM hT2 hB hl hl2 hS
  go_enter Tryd.func46, Tryd.ntmps46
  go_wp2_with (go_at_call 51; refine HS.out.mono ?_; rintro e w1 ⟨rfl, hb1⟩)
  have HB1 := Lib.hid hb1
  have HE := Lib.hid (encode_any ⟨S.toArray⟩ (by have := HSz.out; omega) 8 (by omega) (by omega) w1)
  clear hb1
  go_wp2_with (go_at_call 66; refine HE.out.mono ?_; rintro e w2 ⟨rfl, hb2⟩)
  have HB2 := Lib.hid (bel2 HB1.out hb2)
  clear hb2
  obtain ⟨m, hm⟩ := HM.out.to HB2.out
  have HR := Lib.hid (replaceAll_is ⟨(M.enc 8 S).toArray⟩ ⟨#[37, 50, 48]⟩ ⟨#[43]⟩ T HT2.out m w2.drew (by have := HEz.out; omega) hm (by decide) (by decide) (by decide))
  clear hm
  have H67 := Lib.hid (show ∀ w3, Below w2.heap.size w2.drew w3 → Calls Tryd.prog 67 #[.pointer (some ⟨b, 0, none⟩), .string ⟨T.toArray⟩] w3 fun e w' => e = .returned (.tuple #[.int .i64 T.length, .nilIface]) ∧ IsB 49 B b (acc ++ T) w' ∧ Below B w w' ∧ Lib.OthersKept 5 (some b) w w' from fun w3 h3 => by
    have z2 := HB2.out.size
    have z3 := h3.size
    have z4 : w2.drew.heap.size = w2.heap.size := rfl
    have hb : IsB 49 B b acc w2.drew := HB.out.later HB2.out.drew
    have h := bStr 49 bt49 B b acc ⟨T.toArray⟩ w3 (hb.later h3) (by rw [HTz.out]; omega) (by omega)
    refine h.mono fun e w' ⟨he, hb4, hbel4, hk4⟩ => ⟨by rw [he, HTz.out], hb4, ((HB2.out.drew.trans (h3.mono z2)).mono hBw).trans hbel4, (kept_below (HB2.out.drew.trans (h3.mono z2))).trans hk4⟩)
  clear HB
  go_region_with (first
    | (go_at_call 53; refine HR.out.mono ?_; rintro e w3 ⟨rfl, hb3⟩; have HB3 := Lib.hid hb3; clear hb3)
    | (go_at_call 67; refine (H67.out _ HB3.out).mono ?_; rintro e w4 ⟨rfl, hb4, hbel4, hk4⟩))
  all_goals go_wp2
  all_goals go_end0
  all_goals exact ⟨rfl, hb4, hbel4, hk4⟩
end Go.Proofs.YtikdncmgppckfaaDoor
