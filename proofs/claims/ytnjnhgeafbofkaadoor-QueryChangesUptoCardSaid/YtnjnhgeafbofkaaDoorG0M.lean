import Derived.Test.YtnjnhgeafbofkaaDoorF7M
import Derived.Lib.BufferWrite
import Derived.Laws.MakeOwn
/-
  strings.Clone: it answers the text that it was given; nothing that was there is changed. Condition: the text takes at most 2^48 bytes.
-/
namespace Go.Proofs.YtnjnhgeafbofkaaDoor
open Go.RowKit
set_option maxHeartbeats 4000000 in
set_option maxRecDepth 100000 in
theorem lclone_is (s : ByteArray) (w : World) (hlim : s.size ≤ 281474976710656) :
    Calls Tryd.prog 56 #[.string s] w fun e w' => e = .returned (.string s) ∧ Below w.heap.size w w' := by
  by_cases h0 : s.size = 0
  · have hs : s = ⟨#[]⟩ := by
      apply ByteArray.ext
      exact Array.eq_empty_of_size_eq_zero h0
    subst hs
    go_enter Tryd.func56, Tryd.ntmps56
    go_wp2
    go_ret
    exact ⟨rfl, Below.refl _ _⟩
  · obtain ⟨i0, hi, hz0, hz1, hz2⟩ := info_parts infoByteT
    have hinfo : (Tryd.prog.info? 5).map (·.size) = some 1 := by rw [hi]; simp [hz1]
    have hco : Tryd.prog.cellsOf 5 = 1 := by simp [Program.cellsOf, hi, hz1]
    obtain ⟨M, hM⟩ : ∃ M, M = madeCells (Value.int .u8 0).cells (((s.size : Nat) : Int).toNat * i0.size) := ⟨_, rfl⟩
    have hMs : M.size = s.size := by rw [hM, size_madeCells, hz1]; simp
    have hmk : ∀ W : World, (Instr.makeSlice 45 (.int .i64 (s.size : Int)) (.int .i64 (s.size : Int))).run Tryd.prog W = .ok (.slice (some ⟨W.heap.size, 0, none⟩) s.size s.size) (W.alloc (.cells M 5)) := fun W => by
      have h := run_make (P := Tryd.prog) W 45 5 i0 (.int .u8 0) Tryd.underlying45 hi hz0 .i64 .i64 (s.size : Int) (s.size : Int) (by omega) (by omega) (by rw [hz2]; omega) (by omega)
      rw [← hM] at h
      simpa using h
    clear hM
    have hcp := Lib.run_copy_row_string (P := Tryd.prog) (w.alloc (.cells M 5)) 45 9 3 5 w.heap.size 0 s.size s.size s M 5 Tryd.underlying45 hinfo (heap_alloc_new w _) (Nat.le_refl _) (by omega)
    obtain ⟨Y, hY⟩ : ∃ Y, Y = (M.toList.take 0 ++ Lib.byteCells s.data.toList ++ M.toList.drop (0 + s.size)).toArray := ⟨_, rfl⟩
    rw [← hY] at hcp
    have hYl : Y.toList = Lib.byteCells s.data.toList := by
      rw [hY, List.toList_toArray, List.take_zero, List.nil_append, List.drop_of_length_le (by rw [Array.length_toList]; omega), List.append_nil]
    have hYs : Y.size = s.size := by rw [← Array.length_toList, hYl, Lib.byteCells_length, ← Lib.size_eq]
    have hgY : ((w.alloc (.cells M 5)).setRow w.heap.size Y).heap[w.heap.size]? = some (.cells Y 5 (0, 0)) := setRow_heap _ _ M _ 5 (0, 0) (heap_alloc_new w _)
    have hne : s.data.toList ≠ [] := fun e => h0 (by rw [Lib.size_eq, e]; rfl)
    have hUS := Lib.run_unsafeString_row (P := Tryd.prog) ((w.alloc (.cells M 5)).setRow w.heap.size Y) 82 3 9 5 Tryd.underlying82 hco w.heap.size Y.size (by unfold World.shape?; rw [hgY]) s.data.toList hne (by rw [← Lib.size_eq]; omega) (by rw [← Lib.size_eq]; omega)
      (fun j x hx => Lib.cells_of_row hgY Y.size j _ (by rw [List.take_of_length_le (by rw [Array.length_toList]; exact Nat.le_refl _), hYl]; simp [Lib.byteCells, hx]))
    rw [← Lib.size_eq] at hUS
    have HG := Lib.hid hgY
    clear hY
    go_enter Tryd.func56, Tryd.ntmps56
    go_wp2
    go_ret
    have hb1 : Below w.heap.size w (w.alloc (.cells M 5)) := (Below.refl _ w).alloc (Nat.le_refl _) _
    have hb2 : Below w.heap.size (w.alloc (.cells M 5)) ((w.alloc (.cells M 5)).setRow w.heap.size Y) := ⟨rfl, rfl, rfl, by simp, fun k hk => setRow_other _ _ _ _ (by omega)⟩
    exact ⟨rfl, Lib.below_freeze (hb1.trans hb2) (p := ⟨w.heap.size, 0, none⟩) (Nat.le_refl _) _⟩
set_option maxHeartbeats 400000 in
theorem clone_is (s : ByteArray) (w : World) (hlim : s.size ≤ 281474976710656) :
    Calls Tryd.prog 35 #[.string s] w fun e w' => e = .returned (.string s) ∧ Below w.heap.size w w' := by
  have H := Lib.hid (lclone_is s w hlim)
  go_enter Tryd.func35, Tryd.ntmps35
  go_wp2_with (go_at_call 56; refine H.out.mono ?_; rintro e w1 ⟨rfl, hb1⟩)
  go_ret
  exact ⟨rfl, hb1⟩
end Go.Proofs.YtnjnhgeafbofkaaDoor
/-
  The contracts of query's named (a predicate) and of slices.IndexFunc with it; of Find.
-/
namespace Go.Proofs.YtnjnhgeafbofkaaDoor
open Go.RowKit
/-- the pair's name is nm -/
def isN (nm : ByteArray) (x : Fd) : Bool := x.1.toList == nm.toList
theorem Boxed.to' {w w' : World} {b : Nat} {t : TypeId} {v : Value} (h : Boxed w b t v) (hb : Below w.heap.size w w') : Boxed w' b t v := (hb.block b h.lt).trans h
set_option maxHeartbeats 400000 in
theorem mk_named (nm : ByteArray) (w : World) : Calls Tryd.prog 34 #[.string nm] w fun e w' => e = .returned (.func (.func 55) #[] #[.pointer (some ⟨w.heap.size, 0, none⟩)]) ∧ w' = w.alloc (.cells #[.string nm] 9) := by
  go_enter Tryd.func34, Tryd.ntmps34
  go_wp2
  go_ret
  exact ⟨rfl, rfl⟩
set_option maxHeartbeats 400000 in
theorem named_is (a b nm : ByteArray) (bx : Nat) (w : World) (hB : Boxed w bx 9 (.string nm)) : Calls Tryd.prog 55 #[.agg #[.string a, .string b], .pointer (some ⟨bx, 0, none⟩)] w fun e w' => e = .returned (.bool (isN nm (a, b))) ∧ Below w.heap.size w w' := by
  have HB := Lib.hid (bnew w (.cells #[.string a, .string b] 38))
  have h0 : (w.alloc (.cells #[.string a, .string b] 38)).cell? ⟨w.heap.size, 0, none⟩ = some (.string a) := cell_of_row _ _ 0 _ _ _ (heap_alloc_new w _)
  have h1 : (w.alloc (.cells #[.string a, .string b] 38)).cell? ⟨bx, 0, none⟩ = some (.string nm) := (hB.alloc _).cell
  clear hB
  go_enter Tryd.func55, Tryd.ntmps55
  go_wp2
  go_ret
  exact ⟨rfl, HB.out⟩
set_option maxHeartbeats 1000000 in
theorem indexNamed (nm : ByteArray) (bx : Nat) (v : Value) (l : List Fd) (r : Int) (hr : idxI (isN nm) l = r) (hm : l.length ≤ 140737488355328) (w : World) (hv : Lst w v l) (hB : Boxed w bx 9 (.string nm)) :
    Calls Tryd.prog 33 #[v, .func (.func 55) #[] #[.pointer (some ⟨bx, 0, none⟩)]] w fun e w' => e = .returned (.int .i64 r) ∧ Below w.heap.size w w' := by
  obtain ⟨p, cap, rfl, hA⟩ := hv
  have HA := Lib.hid hA
  have HR := Lib.hid hr
  have HBX := Lib.hid hB
  clear hA hr hB
  go_enter Tryd.func33, Tryd.ntmps33
  go_wp2_with fail
  go_loopw [8] (fun i wr => ∃ k : Nat, k ≤ l.length ∧ i = .int .i64 k ∧ Hid (∀ (j : Nat) (x : Fd), j < k → l[j]? = some x → isN nm x = false) ∧ Below w.heap.size w wr) (fun i _ => l.length - (intOf i).toNat)
  case atStart => exact ⟨0, by omega, rfl, Lib.hid (by intro j x hj; omega), Below.refl _ _⟩
  case round =>
    obtain ⟨k, hk, rfl, HE, hbel⟩ := hrel
    by_cases hlt : k < l.length
    · obtain ⟨g, o, rfl, hg, hx, hy⟩ := HA.out k l[k] (getF hlt)
      have hx2 := (hbel.cell (p := ⟨g, o + k * 2, none⟩) hg).trans hx
      have hy2 := (hbel.cell (p := ⟨g, o + k * 2 + 1, none⟩) hg).trans hy
      have i1 : (k : Int) < (l.length : Int) := by omega
      have HB := Lib.hid hbel
      have HS := Lib.hid (show isN nm l[k] = true → idxI (isN nm) l = k from fun e => idx_some hlt HE.out e)
      have HN := Lib.hid (show isN nm l[k] = false → ∀ (j : Nat) (x : Fd), j < k + 1 → l[j]? = some x → isN nm x = false from fun e j x hj hxx => by
        by_cases hjk : j = k
        · subst hjk; rw [getF hlt] at hxx; cases hxx; exact e
        · exact HE.out j x (by omega) hxx)
      clear hx hy hbel HE
      generalize l[k] = f at *
      obtain ⟨a, b⟩ := f
      go_wp2_with fail
      refine (named_is a b nm bx _ (Boxed.to' HBX.out HB.out)).mono ?_
      rintro e w1 ⟨rfl, hb1⟩
      have HB1 := Lib.hid (bel2 HB.out hb1)
      clear hb1
      cases hl : isN nm (a, b) with
      | true =>
        go_wp2
        go_ret
        exact ⟨ret_int (by rw [← HR.out, HS.out hl]), HB1.out⟩
      | false =>
        go_wp2
        go_roundw
        case rel => exact ⟨k + 1, by omega, by go_num, Lib.hid (HN.out hl), HB1.out⟩
        case measure => simp [intOf]; omega
    · have HD := Lib.hid (show idxI (isN nm) l = -1 from idx_none fun j x hj => HE.out j x (by have := (List.getElem?_eq_some_iff.1 hj).1; omega) hj)
      go_wp2
      go_ret
      exact ⟨ret_int (by rw [← HR.out, HD.out]), hbel⟩
end Go.Proofs.YtnjnhgeafbofkaaDoor
/-
  The contract of query's Find: the value of the first pair of a name, or none; nothing that was there is changed. Conditions: a list's length fits; the values take at most 2^48 bytes each.
-/
namespace Go.Proofs.YtnjnhgeafbofkaaDoor
open Go.RowKit
theorem idxI_none {p : Fd → Bool} {l : List Fd} (h : idxI p l < 0) : l.find? p = none ∧ idxI p l = -1 := by
  unfold idxI at h ⊢
  cases hf : l.findIdx? p with
  | some i => rw [hf] at h; simp only at h; omega
  | none =>
    rw [List.findIdx?_eq_none_iff] at hf
    refine ⟨?_, rfl⟩
    rw [List.find?_eq_none]
    intro x hx; rw [hf x hx]; simp
theorem idxI_some {p : Fd → Bool} {l : List Fd} (h : 0 ≤ idxI p l) : ∃ i, ∃ hi : i < l.length, idxI p l = i ∧ l.find? p = some l[i] ∧ p l[i] = true ∧ ∀ j x, j < i → l[j]? = some x → p x = false := by
  unfold idxI at h ⊢
  cases hf : l.findIdx? p with
  | none => rw [hf] at h; simp only at h; omega
  | some i =>
    obtain ⟨hi, h1, h2⟩ := List.findIdx?_eq_some_iff_getElem.1 hf
    refine ⟨i, hi, rfl, ?_, h1, ?_⟩
    · rw [List.find?_eq_some_iff_getElem]
      exact ⟨h1, i, hi, rfl, fun j hj => by simpa using h2 j hj⟩
    · intro j x hj hx
      have hjl := (List.getElem?_eq_some_iff.1 hx)
      obtain ⟨hjl, rfl⟩ := hjl
      simpa using h2 j hj
/-- what Find answers -/
def findT (nm : ByteArray) (l : List Fd) : ByteArray × Bool := match l.find? (isN nm) with
  | some x => (x.2, true)
  | none => (⟨#[]⟩, false)
set_option maxHeartbeats 1000000 in
theorem find_is (v : Value) (l : List Fd) (nm : ByteArray) (T : ByteArray) (b : Bool) (hT : findT nm l = (T, b)) (hm : l.length ≤ 140737488355328) (hs : ∀ x ∈ l, x.2.size ≤ 281474976710656) (w : World) (hv : Lst w v l) :
    Calls Tryd.prog 15 #[v, .string nm] w fun e w' => e = .returned (.tuple #[.string T, .bool b]) ∧ Below w.heap.size w w' := by
  obtain ⟨r, hr⟩ : ∃ r, idxI (isN nm) l = r := ⟨_, rfl⟩
  have HB0 := Lib.hid (bnew w (.cells #[.string nm] 9))
  have HI := Lib.hid (indexNamed nm w.heap.size v l r hr hm (w.alloc (.cells #[.string nm] 9)) (hv.below HB0.out) (Boxed.new w 9 _))
  have HM := Lib.hid (mk_named nm w)
  have HV := Lib.hid hv
  obtain ⟨p, cap, rfl, _⟩ := hv
  by_cases h0 : r < 0
  · have h1 := idxI_none (p := isN nm) (l := l) (by rw [hr]; exact h0)
    have hr1 : r = -1 := by rw [← hr]; exact h1.2
    have HT := Lib.hid (show T = ⟨#[]⟩ ∧ b = false by
      unfold findT at hT; rw [h1.1] at hT; simp only [Prod.mk.injEq] at hT; exact ⟨hT.1.symm, hT.2.symm⟩)
    subst hr1
    clear hT hr h1 h0
    go_enter Tryd.func15, Tryd.ntmps15
    go_wp2_with (first | (go_at_call 34; refine HM.out.mono ?_; rintro e w1 ⟨rfl, rfl⟩) | (go_at_call 33; refine HI.out.mono ?_; rintro e w2 ⟨rfl, hb2⟩))
    go_ret2
    exact ⟨by rw [HT.out.1, HT.out.2]; rfl, HB0.out.trans (hb2.mono (by simp))⟩
  · obtain ⟨i, hi, hri, hf, _, _⟩ := idxI_some (p := isN nm) (l := l) (by rw [hr]; omega)
    rw [hr] at hri
    subst hri
    have HT := Lib.hid (show T = l[i].2 ∧ b = true by
      unfold findT at hT; rw [hf] at hT; simp only [Prod.mk.injEq] at hT; exact ⟨hT.1.symm, hT.2.symm⟩)
    have hsz := hs _ (List.getElem_mem hi)
    have i1 : (i : Int) < (l.length : Int) := by omega
    clear hT hr hf hs
    go_enter Tryd.func15, Tryd.ntmps15
    go_wp2_with (first | (go_at_call 34; refine HM.out.mono ?_; rintro e w1 ⟨rfl, rfl⟩) | (go_at_call 33; refine HI.out.mono ?_; rintro e w2 ⟨rfl, hb2⟩; have HB2 := Lib.hid (HB0.out.trans (hb2.mono (by simp))); clear hb2; obtain ⟨p', cap', hpe, hcc⟩ := HV.out.below HB2.out; simp only [Value.slice.injEq] at hpe; obtain ⟨rfl, -, rfl⟩ := hpe; obtain ⟨g, o, rfl, hg, hx, hy⟩ := hcc i l[i] (getF hi); clear hcc hx))
    refine (clone_is l[i].2 _ hsz).mono ?_
    rintro e w3 ⟨rfl, hb3⟩
    have HB3 := Lib.hid (bel2 HB2.out hb3)
    clear hb3
    go_wp2
    go_ret2
    exact ⟨by rw [HT.out.1, HT.out.2]; rfl, HB3.out⟩
end Go.Proofs.YtnjnhgeafbofkaaDoor
