import Derived.Test.YtikdncmgppckfaaDoorUtfD
import Derived.Test.YtikdncmgppckfaaDoorSeqBox
namespace Go.Proofs.YtikdncmgppckfaaDoor
open Go.RowKit Go.Shelf
attribute [local go_sem] Oper.semAt_some
def encP (x : Nat × List UInt8) : Array Value := #[.int .i32 x.1, .string ⟨x.2.toArray⟩]
def boxLen (W : World) (bx : Nat) : Nat := match W.cell? ⟨bx, 0, none⟩ with | some (.string t) => t.size | _ => 0
theorem len_list (t : ByteArray) : t.data.toList.length = t.size := by rw [Array.length_toList]; rfl
theorem piece_of (t : ByteArray) (h0 : 0 < t.size) : ∃ r k : Nat, U.fst1 t.data.toList = (r, k) ∧ 1 ≤ k ∧ k ≤ t.size ∧ U.pieces t.data.toList = (r, (t.extract 0 k).data.toList) :: U.pieces (t.extract k t.size).data.toList := by
  have e := list_cons t h0
  have hw := U.fst1_w t[0] (t.data.toList.drop 1)
  have hp := U.pieces_cons t[0] (t.data.toList.drop 1)
  rw [← e] at hw hp
  refine ⟨(U.fst1 t.data.toList).1, (U.fst1 t.data.toList).2, rfl, hw.1, ?_, ?_⟩
  · have := hw.2.2; rw [List.length_drop, len_list] at this; omega
  · rw [extract_list, hp]
    congr 2
    simp only [ByteArray.data_extract, Array.toList_extract, List.extract_eq_take_drop]
    simp
theorem first_is (t : ByteArray) (ht : t.size ≤ maxLen) (h0 : 0 < t.size) (r k : Nat) (h : U.fst1 t.data.toList = (r, k)) (w : World) :
    Calls Tryd.prog 64 #[.string t] w fun e w' => e = .returned (.tuple #[.int .i32 r, .int .i64 k]) ∧ ∃ m, w' = w.drewN m :=
  (first_any t ht h0 w).mono fun _ _ ⟨h1, h2⟩ => ⟨by rw [h1, h], h2⟩
theorem grownBy_drewN (w : World) (m : Nat) : w.grownBy (w.drewN m) none := ⟨rfl, rfl, rfl, Nat.le_refl _, fun _ _ _ => rfl⟩
set_option maxHeartbeats 2000000 in
theorem iter_box (n : Nat) (hn : 2 ≤ n) (bx : Nat) (u : ByteArray) (hu : u.size ≤ maxLen) (w : World) (hb : w.heap[bx]? = some (.cells #[.string u] 9 (0, 0))) :
    SeqBox Fence.wide n Tryd.prog 63 #[.pointer (some ⟨bx, 0, none⟩)] encP 9 bx (fun xs => xs = U.pieces u.data.toList) (fun xs => xs <+: U.pieces u.data.toList) (U.pieces u.data.toList).length w := by
  intro l J Jx W hW hJ hJx hY h0
  refine callsIn_of_wp Tryd.func63 rfl trivial ?_ rfl
  simp only [Tryd.ntmps63, List.size_toArray, List.length_cons, List.length_nil, Nat.reduceAdd, Nat.reduceSub, Array.replicate_succ, Array.replicate_zero, List.push_toArray, List.append_toArray, List.nil_append, List.cons_append]
  have hbW := hW.trans hb
  clear hW hb
  gi_wp2
  gi_loopw [3] (fun p wr => ∃ (pre : List (Nat × List UInt8)) (t : ByteArray), Boxed wr bx 9 (.string t) ∧ t.size ≤ maxLen ∧ Hid (U.pieces u.data.toList = pre ++ U.pieces t.data.toList) ∧ J pre wr)
    (fun p wr => boxLen wr bx)
  case atStart =>
    exact ⟨[], u, hbW, hu, Lib.hid rfl, h0⟩
  case round =>
    obtain ⟨pre, t, hbx, ht, HP, hJs⟩ := hrel
    have hcell := hbx.cell
    have hfr := hbx.frozen
    by_cases h0 : 0 < t.size
    · obtain ⟨r, k, hp, hk1, hk2, hpc⟩ := piece_of t h0
      have HP2 := Lib.hid hpc
      clear hpc
      have HX := Lib.hid hp
      clear hp
      have hlen : pre.length < (U.pieces u.data.toList).length := by rw [HP.out, HP2.out]; simp
      unfold maxLen at ht
      gi_wp2_with fail
      refine ⟨trivial, fun _ => by omega, ?_⟩
      refine (callsIn_wide.2 (first_is t (by unfold maxLen; omega) h0 r k HX.out _)).mono ?_
      rintro e w1 ⟨rfl, m, rfl⟩
      have hJ1 := hJ pre wr (wr.drewN m) none hJs (grownBy_drewN wr m) (fun r e => by cases e)
      obtain ⟨fn, tmps, assign, body, hy, hR⟩ := hY pre (r, (t.extract 0 k).data.toList) (wr.drewN m) hJ1 hlen
      have hpt : (⟨(t.extract 0 k).data.toList.toArray⟩ : ByteArray) = t.extract 0 k := by rw [Array.toArray_toList]
      dsimp only [encP] at hy
      rw [hpt] at hy
      have hbx1 : Boxed (wr.drewN m) bx 9 (.string t) := hbx
      have hc1 := hbx1.cell
      have hf1 := hbx1.frozen
      gi_wp2_with fail
      refine ⟨fun _ => by omega, ?_⟩
      refine hR.mono ?_
      rintro e W3 (⟨rfl, hJ3, hb3⟩ | ⟨rfl, hJx3⟩)
      · have hbx3 : Boxed W3 bx 9 (.string t) := hb3.trans hbx
        have hc3 := hbx3.cell
        have hf3 := hbx3.frozen
        have hJ4 := hJ _ _ _ _ hJ3 (grownBy_setCell' W3 bx (.string (t.extract k t.size))) (fun r e => by cases e; exact ⟨rfl, ⟨t, hbx3⟩, ⟨_, hbx3.set _⟩⟩)
        have hxs : (t.extract k t.size).size = t.size - k := by rw [ByteArray.size_extract]; omega
        gi_wp2
        go_roundw
        case rel =>
          exact ⟨pre ++ [(r, (t.extract 0 k).data.toList)], t.extract k t.size, hbx3.set _, by unfold maxLen; omega, Lib.hid (by rw [HP.out, HP2.out]; simp), hJ4⟩
        case measure =>
          have e1 : boxLen wr bx = t.size := by unfold boxLen; rw [hcell]
          have e2 : boxLen (W3.setCell ⟨bx, 0, none⟩ (.string (t.extract k t.size))) bx = t.size - k := by
            unfold boxLen; rw [(hbx3.set (.string (t.extract k t.size))).cell, ← hxs]
          rw [e1, e2]; omega
      · gi_wp2
        refine bodyPost_ret (results_none rfl _ _ _) rfl ?_
        refine ⟨⟨_, rfl⟩, .inr ⟨pre ++ [(r, (t.extract 0 k).data.toList)], ?_, hJx3⟩⟩
        rw [HP.out, HP2.out]
        exact ⟨U.pieces (t.extract k t.size).data.toList, by simp⟩
    · have HE := Lib.hid (show U.pieces t.data.toList = [] by rw [List.eq_nil_of_length_eq_zero (l := t.data.toList) (by rw [len_list]; omega)]; rfl)
      gi_wp2
      go_end0
      exact ⟨⟨_, rfl⟩, .inl ⟨_, rfl, by rw [HP.out, HE.out, List.append_nil]; exact hJs⟩⟩
end Go.Proofs.YtikdncmgppckfaaDoor
