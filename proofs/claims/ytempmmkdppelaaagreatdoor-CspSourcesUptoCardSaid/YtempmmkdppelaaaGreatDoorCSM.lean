/-
  strings.SplitSeq with a separator of one byte c: its iterator, as a range over a function whose state lies in a cell; plain words for the parts between separators.
-/
import Derived.Test.YtempmmkdppelaaaGreatDoorKSM
import Derived.Test.YtempmmkdppelaaaGreatDoorPBM
import Derived.Test.YtempmmkdppelaaaGreatDoorShelfM
import Derived.Maps.AppendAt
namespace Go.Proofs.YtempmmkdppelaaaGreatDoor.Ks
open Go.RowKit Go.Shelf
attribute [local go_sem] Oper.semAt_some
theorem len_list (s : ByteArray) : s.data.toList.length = s.size := by simp
def partsAt (c : UInt8) : List UInt8 → List (List UInt8)
  | [] => [[]]
  | b :: r => if b = c then [] :: partsAt c r else ((b :: (partsAt c r).headD []) :: (partsAt c r).tail)
theorem partsAt_ne (c : UInt8) (l : List UInt8) : partsAt c l ≠ [] := by
  cases l with
  | nil => simp [partsAt]
  | cons b r => unfold partsAt; split <;> simp
theorem partsAt_hit (c : UInt8) (p r : List UInt8) (hp : c ∉ p) : partsAt c (p ++ c :: r) = p :: partsAt c r := by
  induction p with
  | nil => simp [partsAt]
  | cons b q ih =>
    have hb : ¬ b = c := fun e => hp (by simp [e])
    have hq : c ∉ q := fun h => hp (List.mem_cons_of_mem _ h)
    rw [List.cons_append, partsAt, if_neg hb, ih hq]
    rfl
theorem partsAt_miss (c : UInt8) (l : List UInt8) (h : c ∉ l) : partsAt c l = [l] := by
  induction l with
  | nil => rfl
  | cons b q ih =>
    have hb : ¬ b = c := fun e => h (by simp [e])
    have hq : c ∉ q := fun h' => h (List.mem_cons_of_mem _ h')
    rw [partsAt, if_neg hb, ih hq]
    rfl
theorem idx_cases (l : List UInt8) (c : UInt8) : (Lib.indexByte l c = -1 ∧ c ∉ l) ∨ ∃ i : Nat, Lib.indexByte l c = i ∧ i < l.length ∧ l[i]? = some c ∧ c ∉ l.take i := by
  induction l with
  | nil => exact .inl ⟨rfl, by simp⟩
  | cons b r ih =>
    unfold Lib.indexByte
    by_cases hb : b = c
    · refine .inr ⟨0, by simp [hb], by simp, by simp [hb], by simp⟩
    · have hb' : (b == c) = false := by simpa using hb
      rw [hb']
      rcases ih with ⟨h1, h2⟩ | ⟨i, h1, h2, h3, h4⟩
      · refine .inl ⟨by simp [h1], fun h => ?_⟩
        rcases List.mem_cons.1 h with h | h
        · exact hb h.symm
        · exact h2 h
      · refine .inr ⟨i + 1, ?_, by simpa using h2, by simpa using h3, ?_⟩
        · have : (Lib.indexByte r c == -1) = false := by rw [h1]; rw [beq_eq_false_iff_ne]; omega
          rw [if_neg (by simp), this, if_neg (by simp), h1]; simp
        · rw [List.take_succ_cons]
          intro h
          rcases List.mem_cons.1 h with h | h
          · exact hb h.symm
          · exact h4 h
theorem partsAt_idx (c : UInt8) (l : List UInt8) (i : Nat) (hi : i < l.length) (h : l[i]? = some c) (hn : c ∉ l.take i) : partsAt c l = l.take i :: partsAt c (l.drop (i + 1)) := by
  have e : l = l.take i ++ c :: l.drop (i + 1) := by
    have h1 : l[i] = c := by rw [List.getElem?_eq_getElem hi] at h; exact Option.some.inj h
    conv => lhs; rw [← List.take_append_drop i l]
    rw [List.drop_eq_getElem_cons hi, h1]
  conv => lhs; rw [e]
  exact partsAt_hit c _ _ hn
theorem ext_take (s : ByteArray) (k : Nat) : (s.extract 0 k).data.toList = s.data.toList.take k := by
  simp only [ByteArray.data_extract, Array.toList_extract, List.extract_eq_take_drop]
  simp
theorem ext_drop (s : ByteArray) (k : Nat) : (s.extract k s.size).data.toList = s.data.toList.drop k := by
  simp only [ByteArray.data_extract, Array.toList_extract, List.extract_eq_take_drop]
  exact List.take_of_length_le (by simp)
/-- a part that is not long -/
abbrev PL := { p : List UInt8 // p.length ≤ 2097152 }
def encS (x : PL) : Array Value := #[.string ⟨x.1.toArray⟩]
def boxLen (W : World) (bx : Nat) : Nat := match W.cell? ⟨bx, 0, none⟩ with | some (.string t) => t.size | _ => 0
theorem idx_is (c : UInt8) (t : ByteArray) (i : Int) (h : Lib.indexByte t.data.toList c = i) (w : World) :
    Calls Tryz.prog 78 #[.string t, .string ⟨#[c]⟩] w fun e w' => e = .returned (.int .i64 i) ∧ w = w' :=
  (Tryz.strings_Index_one t c w).mono fun _ _ ⟨h1, h2⟩ => ⟨by rw [h1, h], h2.symm⟩
set_option maxRecDepth 65536000 in
set_option maxHeartbeats 4000000 in
theorem iter_col (c : UInt8) (n : Nat) (hn : 2 ≤ n) (bs be bv : Nat) (u : ByteArray) (hu : u.size ≤ 2097152) (w : World) (hbs : w.heap[bs]? = some (.cells #[.string u] 9 (0, 0))) (hbe : w.heap[be]? = some (.cells #[.string ⟨#[c]⟩] 9 (0, 0))) (hbv : w.heap[bv]? = some (.cells #[.int .i64 0] 3 (0, 0))) (hne : bs ≠ be) :
    SeqBox Fence.wide n Tryz.prog 76 #[.pointer (some ⟨be, 0, none⟩), .pointer (some ⟨bs, 0, none⟩), .pointer (some ⟨bv, 0, none⟩)] encS 9 bs [bs, be, bv] (fun xs => xs.map Subtype.val = partsAt c u.data.toList) (fun xs => xs.map Subtype.val <+: partsAt c u.data.toList) (partsAt c u.data.toList).length w := by
  intro l J Jx W hW hJ hJx hY h0
  have hbW := (hW bs (by simp)).trans hbs
  have heW := (hW be (by simp)).trans hbe
  have hvW := (hW bv (by simp)).trans hbv
  clear hW hbs hbe hbv
  refine callsIn_of_wp Tryz.func76 rfl trivial ?_ rfl
  simp only [Tryz.ntmps76, List.size_toArray, List.length_cons, List.length_nil, Nat.reduceAdd, Nat.reduceSub, Array.replicate_succ, Array.replicate_zero, List.push_toArray, List.append_toArray, List.nil_append, List.cons_append]
  have bE : Boxed W be 9 (.string ⟨#[c]⟩) := heW
  have cE := bE.cell
  gi_wp2_with fail
  gi_loopw [7] (fun _ wr => ∃ (pre : List PL) (t : ByteArray), Boxed wr bs 9 (.string t) ∧ t.size ≤ 2097152 ∧ Hid (partsAt c u.data.toList = pre.map Subtype.val ++ partsAt c t.data.toList) ∧ J pre wr ∧ Boxed wr be 9 (.string ⟨#[c]⟩) ∧ Boxed wr bv 3 (.int .i64 0))
    (fun _ wr => boxLen wr bs)
  case atStart =>
    exact ⟨[], u, hbW, hu, Lib.hid rfl, h0, heW, hvW⟩
  case round =>
    obtain ⟨pre, t, hbx, ht, HP, hJs, hbe, hbv⟩ := hrel
    have hcell := hbx.cell
    have hfr := hbx.frozen
    have hec := hbe.cell
    have hvc := hbv.cell
    rcases idx_cases t.data.toList c with ⟨hix, hno⟩ | ⟨i, hix, hil, hat, hno⟩
    · have HX := Lib.hid hix
      have hpm := partsAt_miss c _ hno
      have HM := Lib.hid hpm
      have hlen : pre.length < (partsAt c u.data.toList).length := by rw [HP.out, hpm]; simp
      clear hix hno hpm
      gi_wp2_with fail
      refine ⟨trivial, fun _ => by omega, ?_⟩
      refine (callsIn_wide.2 (idx_is c t _ HX.out _)).mono ?_
      rintro e w1 ⟨rfl, rfl⟩
      obtain ⟨fn, tmps, assign, body, hy, hR⟩ := hY pre ⟨t.data.toList, by rw [len_list]; exact ht⟩ wr hJs hlen
      dsimp only [encS] at hy
      rw [Array.toArray_toList] at hy
      gi_wp2_with fail
      refine ⟨fun _ => by omega, ?_⟩
      refine hR.mono ?_
      rintro e W3 (⟨rfl, hJ3, hb3⟩ | ⟨rfl, hJx3⟩)
      · gi_wp2_with fail
        refine bodyPost_end (results_none rfl _ _ _) rfl ?_
        exact ⟨⟨_, rfl⟩, .inl ⟨_, by rw [HP.out, HM.out]; simp, hJ3⟩⟩
      · gi_wp2_with fail
        refine bodyPost_end (results_none rfl _ _ _) rfl ?_
        exact ⟨⟨_, rfl⟩, .inr ⟨_, by rw [HP.out, HM.out]; simp, hJx3⟩⟩
    · have hir : i < t.size := by rw [len_list] at hil; exact hil
      have HX := Lib.hid hix
      have hpc := partsAt_idx c _ i hil hat hno
      have HC := Lib.hid hpc
      have hlen : pre.length < (partsAt c u.data.toList).length := by rw [HP.out, hpc]; simp
      have c0 : ¬ ((i : Int) < 0) := by omega
      have c2 : (↑i : Int) ≤ ↑t.size := by omega
      have c3 : (0 : Int) ≤ ↑i + 1 := by omega
      have c4 : (↑i + 1 : Int) ≤ ↑t.size := by omega
      clear hix hno hpc hat hil
      gi_wp2_with fail
      refine ⟨trivial, fun _ => by omega, ?_⟩
      refine (callsIn_wide.2 (idx_is c t _ HX.out _)).mono ?_
      rintro e w1 ⟨rfl, rfl⟩
      obtain ⟨fn, tmps, assign, body, hy, hR⟩ := hY pre ⟨t.data.toList.take i, by rw [List.length_take, len_list]; omega⟩ wr hJs hlen
      have hpt : (⟨(t.data.toList.take i).toArray⟩ : ByteArray) = t.extract 0 i := by rw [← ext_take, Array.toArray_toList]
      dsimp only [encS] at hy
      rw [hpt] at hy
      gi_wp2_with fail
      refine ⟨fun _ => by omega, ?_⟩
      refine hR.mono ?_
      rintro e W3 (⟨rfl, hJ3, hb3⟩ | ⟨rfl, hJx3⟩)
      · have hbx3 : Boxed W3 bs 9 (.string t) := (hb3 bs (by simp)).trans hbx
        have hbe3 : Boxed W3 be 9 (.string ⟨#[c]⟩) := (hb3 be (by simp)).trans hbe
        have hbv3 : Boxed W3 bv 3 (.int .i64 0) := (hb3 bv (by simp)).trans hbv
        have hc3 := hbx3.cell
        have hf3 := hbx3.frozen
        have he3 := hbe3.cell
        have hv3 := hbv3.cell
        have hJ4 := hJ _ _ _ _ hJ3 (grownBy_setCell' W3 bs (.string (t.extract (i + 1) t.size))) (fun r e => by cases e; exact ⟨rfl, ⟨t, hbx3⟩, ⟨_, hbx3.set _⟩⟩)
        have hxs : (t.extract (i + 1) t.size).size = t.size - (i + 1) := by rw [ByteArray.size_extract]; omega
        have HXS := Lib.hid hxs
        have hvs : bv ≠ bs := by
          intro e; rw [e] at hbv3
          have := hbv3.symm.trans hbx3
          simp at this
        clear hxs
        gi_wp2_with fail
        go_roundw
        case rel =>
          exact ⟨pre ++ [⟨t.data.toList.take i, by rw [List.length_take, len_list]; omega⟩], t.extract (i + 1) t.size, hbx3.set _, by rw [HXS.out]; omega, Lib.hid (by rw [HP.out, HC.out, ext_drop]; simp), hJ4, (Below.heap_setCell _ _ _ _ (by exact fun e => hne e.symm)).trans hbe3, (Below.heap_setCell _ _ _ _ hvs).trans hbv3⟩
        case measure =>
          have e1 : boxLen wr bs = t.size := by unfold boxLen; rw [hcell]
          have e2 : boxLen (W3.setCell ⟨bs, 0, none⟩ (.string (t.extract (i + 1) t.size))) bs = t.size - (i + 1) := by
            unfold boxLen; rw [(hbx3.set (.string (t.extract (i + 1) t.size))).cell]; exact HXS.out
          rw [e1, e2]; omega
      · gi_wp2_with fail
        refine bodyPost_ret (results_none rfl _ _ _) rfl ?_
        refine ⟨⟨_, rfl⟩, .inr ⟨_, ?_, hJx3⟩⟩
        rw [HP.out, HC.out]
        exact ⟨partsAt c (t.data.toList.drop (i + 1)), by simp⟩
theorem holdsRow_box {β : Type} (n₀ B0 bx Bs : Nat) (t e tt : TypeId) (ht : tt ≠ t) (he : tt ≠ e) (size : Nat) (k : β → Nat) (f : β → List Value) (G : β → Value → Prop) :
    OwnBox tt B0 bx (fun s W => ∃ v, Boxed W Bs t v ∧ W.ownsRow n₀ e size v (k s) (f s) ∧ G s v) := by
  rintro s X Y row ⟨v, hv, hr, hG⟩ hg hrow
  refine ⟨v, hv.kept hg (fun e' => ?_), hr.kept hg ?_, hG⟩
  · rcases hrow Bs e'.symm with ⟨_, o, ho, hc⟩ | ⟨rfl, ⟨x, hx⟩, _⟩
    · rw [show X.heap[Bs]? = _ from hv] at ho; cases ho; cases hc
    · have hh := hx.symm.trans (show X.heap[Bs]? = _ from hv)
      simp at hh
      exact ht hh.2
  · rcases hr.2 with ⟨rfl, _⟩ | ⟨g, cap, cur, rfl, _, hgb, _⟩
    · exact .inl rfl
    · refine .inr fun e' => ?_
      rcases hrow g (by simpa [Value.ownBlock] using e'.symm) with ⟨_, o, ho, hc⟩ | ⟨rfl, ⟨x, hx⟩, _⟩
      · rw [hgb] at ho; cases ho; cases hc
      · have hh := hx.symm.trans hgb
        simp at hh
        exact he hh.2
theorem ownBox_below {β : Type} {n₀ B0 bx : Nat} {tt : TypeId} {w : World} (h0 : n₀ ≤ w.heap.size) (h1 : n₀ ≤ B0) (h2 : n₀ ≤ bx) : OwnBox tt B0 bx (fun (_ : β) W => Below n₀ w W) := by
  intro s X Y row hs hg hr
  refine hs.grown hg (by have := hs.size; omega) fun k e => ?_
  rcases hr k e with ⟨h, _⟩ | ⟨h, _⟩ <;> omega
theorem ownBox_text {β : Type} {B0 bx : Nat} {tt : TypeId} : OwnBox tt B0 bx (fun (_ : β) W => TextBox tt bx W) := by
  intro s X Y row hs hg hr
  by_cases e : row = some bx
  · rcases hr bx e with ⟨_, o, ho, hc⟩ | ⟨_, _, h⟩
    · obtain ⟨x, hx⟩ := hs
      rw [hx] at ho; cases ho; cases hc
    · exact h
  · obtain ⟨x, hx⟩ := hs
    exact ⟨x, (hg.block bx (Array.getElem?_eq_some_iff.1 hx).1 (fun h => e h.symm)).trans hx⟩
theorem OwnBox.and {β : Type} {B bx : Nat} {t : TypeId} {I I' : β → World → Prop} (h : OwnBox t B bx I) (h' : OwnBox t B bx I') : OwnBox t B bx (fun s W => I s W ∧ I' s W) := fun s W W' row hs hg hr => ⟨h s W W' row hs.1 hg hr, h' s W W' row hs.2 hg hr⟩
theorem ownBox_pure {β : Type} {B bx : Nat} {t : TypeId} (p : β → Prop) : OwnBox t B bx (fun s _ => p s) := fun _ _ _ _ hs _ _ => hs
theorem ownBox_boxed {β : Type} {B0 bx k : Nat} {tt t : TypeId} {v : Value} (hk : k ≠ bx) : OwnBox tt B0 bx (fun (_ : β) W => Boxed W k t v) := by
  intro s X Y row hs hg hr
  refine hs.kept hg fun e => ?_
  rcases hr k e.symm with ⟨_, o, ho, hc⟩ | ⟨h, _⟩
  · rw [show X.heap[k]? = _ from hs] at ho; cases ho; cases hc
  · exact hk h
set_option maxHeartbeats 1000000 in
theorem splitseq_in (c : UInt8) (n : Nat) (u : ByteArray) (w : World) :
    CallsIn Fence.wide n Tryz.prog 31 #[.string u, .string ⟨#[c]⟩] w fun e w' => e = .returned (.func (.func 76) #[] #[.pointer (some ⟨w.heap.size + 1, 0, none⟩), .pointer (some ⟨w.heap.size, 0, none⟩), .pointer (some ⟨w.heap.size + 2, 0, none⟩)]) ∧ w' = ((w.alloc (.cells #[.string u] 9)).alloc (.cells #[.string ⟨#[c]⟩] 9)).alloc (.cells #[.int .i64 0] 3) := by
  refine callsIn_wide.2 ?_
  go_enter Tryz.func31, Tryz.ntmps31
  go_wp2_with fail
  have : Calls Tryz.prog 54 #[.string u, .string ⟨#[c]⟩, .int .i64 0] w fun e w' => e = .returned (.func (.func 76) #[] #[.pointer (some ⟨w.heap.size + 1, 0, none⟩), .pointer (some ⟨w.heap.size, 0, none⟩), .pointer (some ⟨w.heap.size + 2, 0, none⟩)]) ∧ w' = ((w.alloc (.cells #[.string u] 9)).alloc (.cells #[.string ⟨#[c]⟩] 9)).alloc (.cells #[.int .i64 0] 3) := by
    go_enter Tryz.func54, Tryz.ntmps54
    go_wp2_with fail
    go_ret
    exact ⟨rfl, rfl⟩
  refine this.mono ?_
  rintro e w1 ⟨rfl, rfl⟩
  go_wp2_with fail
  go_ret
  exact ⟨rfl, rfl⟩
end Go.Proofs.YtempmmkdppelaaaGreatDoor.Ks
