import Derived.Test.YtamhmpgaapgmbaaDoorSB
import Derived.Test.YtamhmpgaapgmbaaDoorA17b
namespace Go.Proofs.YtamhmpgaapgmbaaDoor
open Go.RowKit Go.Shelf
attribute [local go_sem] Oper.semAt_some
/-- a part that is not long -/
abbrev PL := { p : List UInt8 // p.length ≤ 1000 }
def encS (x : PL) : Array Value := #[.string ⟨x.1.toArray⟩]
def boxLen (W : World) (bx : Nat) : Nat := match W.cell? ⟨bx, 0, none⟩ with | some (.string t) => t.size | _ => 0
theorem len_list (t : ByteArray) : t.data.toList.length = t.size := by rw [Array.length_toList]; rfl
theorem idx_is (t : ByteArray) (i : Int) (h : Lib.indexByte t.data.toList 58 = i) (w : World) :
    Calls Tryd.prog 52 #[.string t, .string ⟨#[58]⟩] w fun e w' => e = .returned (.int .i64 i) ∧ w = w' :=
  (Tryd.strings_Index_one t 58 w).mono fun _ _ ⟨h1, h2⟩ => ⟨by rw [h1, h], h2.symm⟩
set_option maxRecDepth 100000 in
set_option maxHeartbeats 4000000 in
theorem iter_col (n : Nat) (hn : 2 ≤ n) (bs be bv : Nat) (u : ByteArray) (hu : u.size ≤ 1000) (w : World) (hbs : w.heap[bs]? = some (.cells #[.string u] 9 (0, 0))) (hbe : w.heap[be]? = some (.cells #[.string ⟨#[58]⟩] 9 (0, 0))) (hbv : w.heap[bv]? = some (.cells #[.int .i64 0] 3 (0, 0))) (hne : bs ≠ be) :
    SeqBox Fence.wide n Tryd.prog 85 #[.pointer (some ⟨be, 0, none⟩), .pointer (some ⟨bs, 0, none⟩), .pointer (some ⟨bv, 0, none⟩)] encS 9 bs [bs, be, bv] (fun xs => xs.map Subtype.val = partsAt 58 u.data.toList) (fun xs => xs.map Subtype.val <+: partsAt 58 u.data.toList) (partsAt 58 u.data.toList).length w := by
  intro l J Jx W hW hJ hJx hY h0
  have hbW := (hW bs (by simp)).trans hbs
  have heW := (hW be (by simp)).trans hbe
  have hvW := (hW bv (by simp)).trans hbv
  clear hW hbs hbe hbv
  refine callsIn_of_wp Tryd.func85 rfl trivial ?_ rfl
  simp only [Tryd.ntmps85, List.size_toArray, List.length_cons, List.length_nil, Nat.reduceAdd, Nat.reduceSub, Array.replicate_succ, Array.replicate_zero, List.push_toArray, List.append_toArray, List.nil_append, List.cons_append]
  have bE : Boxed W be 9 (.string ⟨#[58]⟩) := heW
  have cE := bE.cell
  gi_wp2_with fail
  gi_loopw [7] (fun _ wr => ∃ (pre : List PL) (t : ByteArray), Boxed wr bs 9 (.string t) ∧ t.size ≤ 1000 ∧ Hid (partsAt 58 u.data.toList = pre.map Subtype.val ++ partsAt 58 t.data.toList) ∧ J pre wr ∧ Boxed wr be 9 (.string ⟨#[58]⟩) ∧ Boxed wr bv 3 (.int .i64 0))
    (fun _ wr => boxLen wr bs)
  case atStart =>
    exact ⟨[], u, hbW, hu, Lib.hid rfl, h0, heW, hvW⟩
  case round =>
    obtain ⟨pre, t, hbx, ht, HP, hJs, hbe, hbv⟩ := hrel
    have hcell := hbx.cell
    have hfr := hbx.frozen
    have hec := hbe.cell
    have hvc := hbv.cell
    rcases idx_cases t.data.toList 58 with ⟨hix, hno⟩ | ⟨i, hix, hil, hat, hno⟩
    · have HX := Lib.hid hix
      have hpm := partsAt_miss 58 _ hno
      have HM := Lib.hid hpm
      have hlen : pre.length < (partsAt 58 u.data.toList).length := by rw [HP.out, hpm]; simp
      clear hix hno hpm
      gi_wp2_with fail
      refine ⟨trivial, fun _ => by omega, ?_⟩
      refine (callsIn_wide.2 (idx_is t _ HX.out _)).mono ?_
      rintro e w1 ⟨rfl, rfl⟩
      obtain ⟨fn, tmps, assign, body, hy, hR⟩ := hY pre ⟨t.data.toList, by rw [len_list]; exact ht⟩ wr hJs hlen
      dsimp only [encS] at hy
      rw [Array.toArray_toList] at hy
      gi_wp2_with fail
      refine ⟨fun _ => by omega, ?_⟩
      refine hR.mono ?_
      rintro e W3 (⟨rfl, hJ3, hb3⟩ | ⟨rfl, hJx3⟩)
      · gi_wp2_with fail
        refine bodyPost_end (results_none rfl _ _ _) rfl ?_
        exact ⟨⟨_, rfl⟩, .inl ⟨_, by rw [HP.out, HM.out]; simp, hJ3⟩⟩
      · gi_wp2_with fail
        refine bodyPost_end (results_none rfl _ _ _) rfl ?_
        exact ⟨⟨_, rfl⟩, .inr ⟨_, by rw [HP.out, HM.out]; simp, hJx3⟩⟩
    · have hir : i < t.size := by rw [len_list] at hil; exact hil
      have HX := Lib.hid hix
      have hpc := partsAt_idx 58 _ i hil hat hno
      have HC := Lib.hid hpc
      have hlen : pre.length < (partsAt 58 u.data.toList).length := by rw [HP.out, hpc]; simp
      have c0 : ¬ ((i : Int) < 0) := by omega
      have c2 : (↑i : Int) ≤ ↑t.size := by omega
      have c3 : (0 : Int) ≤ ↑i + 1 := by omega
      have c4 : (↑i + 1 : Int) ≤ ↑t.size := by omega
      clear hix hno hpc hat hil
      gi_wp2_with fail
      refine ⟨trivial, fun _ => by omega, ?_⟩
      refine (callsIn_wide.2 (idx_is t _ HX.out _)).mono ?_
      rintro e w1 ⟨rfl, rfl⟩
      obtain ⟨fn, tmps, assign, body, hy, hR⟩ := hY pre ⟨t.data.toList.take i, by rw [List.length_take, len_list]; omega⟩ wr hJs hlen
      have hpt : (⟨(t.data.toList.take i).toArray⟩ : ByteArray) = t.extract 0 i := by rw [← ext_take, Array.toArray_toList]
      dsimp only [encS] at hy
      rw [hpt] at hy
      gi_wp2_with fail
      refine ⟨fun _ => by omega, ?_⟩
      refine hR.mono ?_
      rintro e W3 (⟨rfl, hJ3, hb3⟩ | ⟨rfl, hJx3⟩)
      · have hbx3 : Boxed W3 bs 9 (.string t) := (hb3 bs (by simp)).trans hbx
        have hbe3 : Boxed W3 be 9 (.string ⟨#[58]⟩) := (hb3 be (by simp)).trans hbe
        have hbv3 : Boxed W3 bv 3 (.int .i64 0) := (hb3 bv (by simp)).trans hbv
        have hc3 := hbx3.cell
        have hf3 := hbx3.frozen
        have he3 := hbe3.cell
        have hv3 := hbv3.cell
        have hJ4 := hJ _ _ _ _ hJ3 (grownBy_setCell' W3 bs (.string (t.extract (i + 1) t.size))) (fun r e => by cases e; exact ⟨rfl, ⟨t, hbx3⟩, ⟨_, hbx3.set _⟩⟩)
        have hxs : (t.extract (i + 1) t.size).size = t.size - (i + 1) := by rw [ByteArray.size_extract]; omega
        have HXS := Lib.hid hxs
        have hvs : bv ≠ bs := by
          intro e; rw [e] at hbv3
          have := hbv3.symm.trans hbx3
          simp at this
        clear hxs
        gi_wp2_with fail
        go_roundw
        case rel =>
          exact ⟨pre ++ [⟨t.data.toList.take i, by rw [List.length_take, len_list]; omega⟩], t.extract (i + 1) t.size, hbx3.set _, by rw [HXS.out]; omega, Lib.hid (by rw [HP.out, HC.out, ext_drop]; simp), hJ4, (Below.heap_setCell _ _ _ _ (by exact fun e => hne e.symm)).trans hbe3, (Below.heap_setCell _ _ _ _ hvs).trans hbv3⟩
        case measure =>
          have e1 : boxLen wr bs = t.size := by unfold boxLen; rw [hcell]
          have e2 : boxLen (W3.setCell ⟨bs, 0, none⟩ (.string (t.extract (i + 1) t.size))) bs = t.size - (i + 1) := by
            unfold boxLen; rw [(hbx3.set (.string (t.extract (i + 1) t.size))).cell]; exact HXS.out
          rw [e1, e2]; omega
      · gi_wp2_with fail
        refine bodyPost_ret (results_none rfl _ _ _) rfl ?_
        refine ⟨⟨_, rfl⟩, .inr ⟨_, ?_, hJx3⟩⟩
        rw [HP.out, HC.out]
        exact ⟨partsAt 58 (t.data.toList.drop (i + 1)), by simp⟩
end Go.Proofs.YtamhmpgaapgmbaaDoor
