/-
  The contract of query's Print: it answers the plain function's text, ErrMany past 256 pairs, ErrLong past 4096 bytes of a text; nothing that was there is changed. Conditions: the list's length fits.
-/
import Derived.Test.YtikdncmgppckfaaDoorF2
namespace Go.Proofs.YtikdncmgppckfaaDoor
open Go.RowKit
/-- what a list of pairs is written as, pair by pair -/
def prL (l : List Fd) : List UInt8 := l.foldl (fun acc x => wrP x acc) []
theorem prL_snoc (l : List Fd) (k : Nat) (h : k < l.length) : prL (l.take (k + 1)) = wrP l[k] (prL (l.take k)) := by
  unfold prL
  rw [take_snoc l k h, List.foldl_append]; rfl
theorem wrP_len (x : Fd) (acc : List UInt8) (h : longF x = false) : (wrP x acc).length ≤ acc.length + 100000 := by
  simp only [longF, Bool.or_eq_false_iff, decide_eq_false_iff_not] at h
  have h1 := wrT_len x.1.data.toList 4096 (by rw [len_list]; omega)
  have h2 := wrT_len x.2.data.toList 4096 (by rw [len_list]; omega)
  have h3 : (if acc = [] then [] else acc ++ [38]).length ≤ acc.length + 1 := by
    by_cases h : acc = []
    · rw [if_pos h]; simp
    · rw [if_neg h]; simp
  unfold wrP
  simp only [List.length_append, List.length_cons, List.length_nil]
  omega
theorem prL_len (l : List Fd) (h : ∀ x ∈ l, longF x = false) (k : Nat) : (prL (l.take k)).length ≤ k * 100000 := by
  induction k with
  | zero => simp [prL]
  | succ k ih =>
    rw [Nat.succ_mul]
    by_cases hk : k < l.length
    · rw [prL_snoc l k hk]
      exact Nat.le_trans (wrP_len l[k] (prL (l.take k)) (h _ (List.getElem_mem hk))) (Nat.add_le_add_right ih _)
    · have e : l.take (k + 1) = l.take k := by rw [List.take_of_length_le (by omega), List.take_of_length_le (by omega)]
      rw [e]
      exact Nat.le_trans ih (Nat.le_add_right _ _)
theorem ret_se {a b : ByteArray} {x y : Int} (h : a = b) (h2 : x = y) : Ending.returned (.tuple #[.string a, .int .i64 x]) = Ending.returned (.tuple #[.string b, .int .i64 y]) := by rw [h, h2]
set_option maxHeartbeats 1000000 in
theorem print_many (v : Value) (l : List Fd) (hm : l.length ≤ 140737488355328) (hl : 256 < l.length) (w : World) (hv : Lst w v l) :
    Calls Tryd.prog 9 #[v] w fun e w' => e = .returned (.tuple #[.string ⟨#[]⟩, .int .i64 3]) ∧ Below w.heap.size w w' := by
  obtain ⟨p, cap, rfl, _⟩ := hv
  have g1 : decide ((256 : Int) < (l.length : Int)) = true := by simp; omega
  go_enter Tryd.func9, Tryd.ntmps9
  go_wp2
  go_ret2
  exact ⟨rfl, Below.refl _ _⟩
set_option maxHeartbeats 1000000 in
theorem print_long (v : Value) (l : List Fd) (hm : l.length ≤ 140737488355328) (hl : l.length ≤ 256) (hL : l.any longF = true) (w : World) (hv : Lst w v l) :
    Calls Tryd.prog 9 #[v] w fun e w' => e = .returned (.tuple #[.string ⟨#[]⟩, .int .i64 4]) ∧ Below w.heap.size w w' := by
  have HA := Lib.hid (anyLong v l true hL hm w hv)
  obtain ⟨p, cap, rfl, _⟩ := hv
  have g1 : decide ((256 : Int) < (l.length : Int)) = false := by simp; omega
  clear hL
  go_enter Tryd.func9, Tryd.ntmps9
  go_wp2_with fail
  refine HA.out.mono ?_
  rintro e w1 ⟨rfl, hb1⟩
  go_wp2
  go_ret2
  exact ⟨rfl, hb1⟩
set_option maxHeartbeats 2000000 in
theorem print_ok (v : Value) (l : List Fd) (T : List UInt8) (hT : prL l = T) (hl : l.length ≤ 256) (hL : l.any longF = false) (w : World) (hM : ML w) (hv : Lst w v l) :
    Calls Tryd.prog 9 #[v] w fun e w' => e = .returned (.tuple #[.string ⟨T.toArray⟩, .int .i64 0]) ∧ Below w.heap.size w w' := by
  have HA := Lib.hid (anyLong v l false hL (by omega) w hv)
  obtain ⟨p, cap, rfl, hc⟩ := hv
  have HS := Lib.hid (show ∀ x ∈ l, longF x = false from by
    intro x hx
    cases h : longF x with
    | false => rfl
    | true => rw [List.any_eq_true.2 ⟨x, hx, h⟩] at hL; cases hL)
  have HC := Lib.hid hc
  have HT := Lib.hid hT
  have HM := Lib.hid hM
  have g1 : decide ((256 : Int) < (l.length : Int)) = false := by simp; omega
  have hw0 : 0 < w.heap.size := by obtain ⟨m, hm⟩ := hM; exact World.block_lt_of_cell? _ _ hm
  clear hL hc hT hM
  go_enter Tryd.func9, Tryd.ntmps9
  go_wp2_with fail
  refine HA.out.mono ?_
  rintro e w1 ⟨rfl, hb1⟩
  have hs1 := hb1.size
  have HB1 := Lib.hid hb1
  have HIs := Lib.hid (show IsB 49 w1.heap.size w1.heap.size [] (w1.alloc (.cells #[.pointer none, .slice none 0 0] 49)) from
    .inl ⟨Nat.le_refl _, .slice none 0 0, heap_alloc_new w1 _, World.ownsRowF_of (World.ownsRow_nil _ _ _ _), by simp [Value.ownBlock]⟩)
  have HBE := Lib.hid (bnew w1 (.cells #[.pointer none, .slice none 0 0] 49))
  clear hb1 HA
  go_wp2_with fail
  go_loopw [18] (fun i wr => ∃ k : Nat, k ≤ l.length ∧ i = .int .i64 k ∧ Hid (IsB 49 w1.heap.size w1.heap.size (prL (l.take k)) wr) ∧ Hid (Below w1.heap.size w1 wr)) (fun i _ => l.length - (intOf i).toNat)
  case atStart => exact ⟨0, by omega, rfl, HIs, HBE⟩
  case round =>
    obtain ⟨k, hk, rfl, HIB, HBW⟩ := hrel
    have hsr := HBW.out.size
    by_cases hlt : k < l.length
    · obtain ⟨g, o, rfl, hg, hx, hy⟩ := HC.out k l[k] (getF hlt)
      have hbw : Below w.heap.size w wr := HB1.out.trans (HBW.out.mono (by omega))
      have hx2 := (hbw.cell (p := ⟨g, o + k * 2, none⟩) hg).trans hx
      have hy2 := (hbw.cell (p := ⟨g, o + k * 2 + 1, none⟩) hg).trans hy
      have i1 : (k : Int) < (l.length : Int) := by omega
      have HP := Lib.hid (prL_snoc l k hlt)
      have HK := Lib.hid (prL_len l HS.out k)
      have HS1 := Lib.hid (HS.out l[k] (List.getElem_mem hlt))
      have HMr := Lib.hid (HM.out.to hbw)
      clear hx hy hbw
      generalize l[k] = f at *
      obtain ⟨x, y⟩ := f
      have HXY := Lib.hid (show x.size ≤ 4096 ∧ y.size ≤ 4096 from by
        have := HS1.out
        simp only [longF, Bool.or_eq_false_iff, decide_eq_false_iff_not] at this
        omega)
      go_wp2_with fail
      refine (pair_is w1.heap.size w1.heap.size (prL (l.take k)) x y _ rfl HXY.out.1 HXY.out.2 _ (HIB.out.later (bnew _ _)) (by have := HK.out; omega) (by simp; omega) (HMr.out.to (bnew _ _)) (by omega)).mono ?_
      rintro e w3 ⟨rfl, q1, q2, _⟩
      have H1 := Lib.hid q1
      have H2 := Lib.hid ((HBW.out.alloc (by omega) (.cells #[.string x, .string y] 38)).trans q2)
      clear q1 q2
      go_wp2
      go_roundw
      case rel => exact ⟨k + 1, by omega, by go_num, Lib.hid (by rw [HP.out]; exact H1.out), H2⟩
      case measure => simp [intOf]; omega
    · have HD := Lib.hid (show prL (l.take k) = T by rw [List.take_of_length_le (by omega)]; exact HT.out)
      have HIB2 := Lib.hid (show IsB 49 w1.heap.size w1.heap.size T wr by rw [← HD.out]; exact HIB.out)
      go_wp2_with fail
      refine (bString 49 w1.heap.size w1.heap.size T wr HIB2.out (by omega)).mono ?_
      rintro e w3 ⟨rfl, q2, _⟩
      have H2 := Lib.hid (HBW.out.trans q2)
      clear q2
      go_wp2
      go_ret2
      exact ⟨rfl, HB1.out.trans (H2.out.mono hs1)⟩
theorem print_any (v : Value) (l : List Fd) (hm : l.length ≤ 140737488355328) (w : World) (hM : ML w) (hv : Lst w v l) (T : List UInt8) (r : Int)
    (h : (if 256 < l.length then ([], 3) else if l.any longF then ([], 4) else (prL l, 0)) = (T, r)) :
    Calls Tryd.prog 9 #[v] w fun e w' => e = .returned (.tuple #[.string ⟨T.toArray⟩, .int .i64 r]) ∧ Below w.heap.size w w' := by
  by_cases h1 : 256 < l.length
  · rw [if_pos h1] at h; injection h with ha hb; subst ha; subst hb
    exact print_many v l hm h1 w hv
  · rw [if_neg h1] at h
    cases h2 : l.any longF with
    | true => rw [if_pos h2] at h; injection h with ha hb; subst ha; subst hb; exact print_long v l hm (by omega) h2 w hv
    | false => rw [if_neg (by rw [h2]; simp)] at h; injection h with ha hb; subst hb; exact print_ok v l T ha (by omega) h2 w hM hv
end Go.Proofs.YtikdncmgppckfaaDoor
