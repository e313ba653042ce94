/-
  The document's V6.
-/
import Derived.Test.YtflddokngplgiaaDoorXGM
namespace Go.Proofs.YtflddokngplgiaaDoor
open Go.RowKit

def stA (W : World) (b : Nat) (c0 c1 c2 c3 c4 c5 c6 c7 : Int) : World := ((((((((W.setCell ⟨b, 0, none⟩ (.int .u16 c0)).setCell ⟨b, 1, none⟩ (.int .u16 c1)).setCell ⟨b, 2, none⟩ (.int .u16 c2)).setCell ⟨b, 3, none⟩ (.int .u16 c3)).setCell ⟨b, 4, none⟩ (.int .u16 c4)).setCell ⟨b, 5, none⟩ (.int .u16 c5)).setCell ⟨b, 6, none⟩ (.int .u16 c6)).setCell ⟨b, 7, none⟩ (.int .u16 c7))
theorem stA_has {W : World} {b : Nat} (c0 c1 c2 c3 c4 c5 c6 c7 : Int) (h : Has W b (.cells Z8 27)) : Has (stA W b c0 c1 c2 c3 c4 c5 c6 c7) b (.cells #[.int .u16 c0, .int .u16 c1, .int .u16 c2, .int .u16 c3, .int .u16 c4, .int .u16 c5, .int .u16 c6, .int .u16 c7] 27) := by
  have h8 := (((((((h.set 0 (.int .u16 c0)).set 1 (.int .u16 c1)).set 2 (.int .u16 c2)).set 3 (.int .u16 c3)).set 4 (.int .u16 c4)).set 5 (.int .u16 c5)).set 6 (.int .u16 c6)).set 7 (.int .u16 c7)
  unfold stA
  simpa only [Z8, List.setIfInBounds_toArray, List.set_cons_zero, List.set_cons_succ] using h8
theorem stA_below {w W : World} {n b : Nat} (c0 c1 c2 c3 c4 c5 c6 c7 : Int) (h : Below n w W) (hb : n ≤ b) : Below n w (stA W b c0 c1 c2 c3 c4 c5 c6 c7) := ((((((((h.setCell (p := ⟨b, 0, none⟩) hb _).setCell (p := ⟨b, 1, none⟩) hb _).setCell (p := ⟨b, 2, none⟩) hb _).setCell (p := ⟨b, 3, none⟩) hb _).setCell (p := ⟨b, 4, none⟩) hb _).setCell (p := ⟨b, 5, none⟩) hb _).setCell (p := ⟨b, 6, none⟩) hb _).setCell (p := ⟨b, 7, none⟩) hb _)
theorem arr_done {fn : Func} (h : fn.results = #[.cell 2 27, .tmp 3]) (tmps : Array Value) (W : World) (b : Nat) (c0 c1 c2 c3 c4 c5 c6 c7 code : Int) (hp : tmps.getD 2 undef = .pointer (some ⟨b, 0, none⟩)) (ht : tmps.getD 3 undef = .int .i64 code) (hg : Has W b (.cells Z8 27)) :
    (results fn tmps).run Tryd.prog (stA W b c0 c1 c2 c3 c4 c5 c6 c7) = .ok (.tuple #[.agg #[.int .u16 c0, .int .u16 c1, .int .u16 c2, .int .u16 c3, .int .u16 c4, .int .u16 c5, .int .u16 c6, .int .u16 c7], .int .i64 code]) (stA W b c0 c1 c2 c3 c4 c5 c6 c7) := by
  rw [← ht]
  exact results_arr h tmps _ b _ hp (stA_has c0 c1 c2 c3 c4 c5 c6 c7 hg) rfl
/-- what the walk keeps: the result's cells, the array's -/
structure VSt (w : World) (cs : List Nat) (W : World) : Prop where
  hr : Has W w.heap.size (.cells Z8 27)
  ha : Has W (w.heap.size + 1) (.cells (A8 cs) 27)
  hb : Below w.heap.size w W
theorem VSt.to {w W W' : World} {cs : List Nat} (h : VSt w cs W) (hb : Below W.heap.size W W') : VSt w cs W' := ⟨h.hr.to hb, h.ha.to hb, h.hb.trans (hb.mono h.hb.size)⟩
/-- pieces that can be read, in no block up to b -/
def RowIn (b : Nat) (W : World) (v : Value) (xs : List Nat) : Prop :=
  ∃ (p : Option Addr) (cap : Nat), v = .slice p xs.length cap ∧ ∀ (j : Nat) (x : Nat), xs[j]? = some x → ∃ g cur, p = some ⟨g, 0, none⟩ ∧ b < g ∧ Has W g (.cells cur 26) ∧ cur[j]? = some (.int .u16 x)
theorem RowIn.to {b : Nat} {W W' : World} {v : Value} {xs : List Nat} (h : RowIn b W v xs) (hb : Below W.heap.size W W') : RowIn b W' v xs := by
  obtain ⟨p, cap, hv, hc⟩ := h
  refine ⟨p, cap, hv, fun j x hj => ?_⟩
  obtain ⟨g, cur, h1, h2, h3, h4⟩ := hc j x hj
  exact ⟨g, cur, h1, h2, h3.to hb, h4⟩
theorem RowIn.set {b : Nat} {W : World} {v : Value} {xs : List Nat} (h : RowIn b W v xs) (i : Nat) (u : Value) : RowIn b (W.setCell ⟨b, i, none⟩ u) v xs := by
  obtain ⟨p, cap, hv, hc⟩ := h
  refine ⟨p, cap, hv, fun j x hj => ?_⟩
  obtain ⟨g, cur, h1, h2, h3, h4⟩ := hc j x hj
  exact ⟨g, cur, h1, h2, h3.far (p := ⟨b, i, none⟩) (show g ≠ b by omega) u, h4⟩
theorem rowIn_own {b B : Nat} {W : World} {v : Value} {xs : List Nat} (h : W.ownsRow B 26 1 v xs.length (xs.map u16V)) (hb : b < B) : RowIn b W v xs := by
  rcases h.2 with ⟨rfl, hn⟩ | ⟨g, cap, cur, rfl, hB, hg, _, _, _, ht⟩
  · have : xs = [] := List.eq_nil_of_length_eq_zero hn
    subst this
    exact ⟨none, 0, rfl, fun j x hj => by simp at hj⟩
  · refine ⟨_, cap, rfl, fun j x hj => ⟨g, cur, rfl, by omega, hg, ?_⟩⟩
    have hjl := (List.getElem?_eq_some_iff.1 hj).1
    have h1 : (xs.map u16V)[j]? = some (.int .u16 x) := by rw [List.getElem?_map, hj]; rfl
    rw [← ht, List.getElem?_take, if_pos (by omega)] at h1
    simpa using h1
def cpy (cs : List Nat) (o : Nat) (xs : List Nat) (j : Nat) : List Nat := cs.take o ++ xs.take j ++ cs.drop (o + j)
theorem cpy_zero (cs : List Nat) (o : Nat) (xs : List Nat) : cpy cs o xs 0 = cs := by unfold cpy; simp
theorem cpy_len {cs : List Nat} {o : Nat} {xs : List Nat} {j : Nat} (h8 : cs.length = 8) (ho : o + xs.length ≤ 8) (hj : j ≤ xs.length) : (cpy cs o xs j).length = 8 := by
  unfold cpy
  simp only [List.length_append, List.length_take, List.length_drop]
  omega
theorem cpy_step {cs : List Nat} {o : Nat} {xs : List Nat} {j x : Nat} (h8 : cs.length = 8) (ho : o + xs.length ≤ 8) (hx : xs[j]? = some x) : (A8 (cpy cs o xs j)).setIfInBounds (o + j) (.int .u16 x) = A8 (cpy cs o xs (j + 1)) := by
  obtain ⟨hj, e⟩ := List.getElem?_eq_some_iff.1 hx
  unfold A8
  rw [List.setIfInBounds_toArray]
  congr 1
  have h1 : cpy cs o xs (j + 1) = (cpy cs o xs j).set (o + j) x := by
    unfold cpy
    rw [List.take_succ_eq_append_getElem hj, e, List.drop_eq_getElem_cons (show o + j < cs.length by omega), List.set_append_right _ _ (by simp; omega)]
    have hl : (cs.take o ++ xs.take j).length = o + j := by simp; omega
    rw [hl, Nat.sub_self, List.set_cons_zero]
    simp [Nat.add_assoc]
  rw [h1, List.map_set]
theorem VSt.put {w W : World} {cs : List Nat} {o : Nat} {xs : List Nat} {j x : Nat} (h : VSt w (cpy cs o xs j) W) (h8 : cs.length = 8) (ho : o + xs.length ≤ 8) (hx : xs[j]? = some x) : VSt w (cpy cs o xs (j + 1)) (W.setCell ⟨w.heap.size + 1, o + j, none⟩ (.int .u16 x)) := by
  refine ⟨h.hr.far (p := ⟨w.heap.size + 1, o + j, none⟩) (show w.heap.size ≠ w.heap.size + 1 by omega) _, ?_, h.hb.setCell (p := ⟨w.heap.size + 1, o + j, none⟩) (show w.heap.size ≤ w.heap.size + 1 by omega) _⟩
  have := h.ha.set (o + j) (.int .u16 x)
  rw [cpy_step h8 ho hx] at this
  exact this
theorem VSt.at {w W : World} {cs : List Nat} (h : VSt w cs W) (h8 : cs.length = 8) (i : Nat) (hi : i < 8) : W.cell? ⟨w.heap.size + 1, i, none⟩ = some (.int .u16 (cs[i]'(by omega) : Nat)) := h.ha.cell i (by unfold A8; simp [h8, hi])
theorem len8 {cs : List Nat} (h : cs.length = 8) : ∃ a0 a1 a2 a3 a4 a5 a6 a7, cs = [a0, a1, a2, a3, a4, a5, a6, a7] := by
  match cs, h with
  | [a0, a1, a2, a3, a4, a5, a6, a7], _ => exact ⟨a0, a1, a2, a3, a4, a5, a6, a7, rfl⟩
theorem vst_new (w : World) : VSt w zer8 ((w.alloc (.cells Z8 27)).alloc (.cells Z8 27)) := by
  have h2 : Has ((w.alloc (.cells Z8 27)).alloc (.cells Z8 27)) (w.heap.size + 1) (.cells Z8 27) := heap_alloc2_new w _ _
  exact ⟨(Has.new w _).alloc _, h2, (bnew w _).alloc (by simp) _⟩
theorem v6_no' {R : Option (List Nat)} {b : Value} (h : R = none) (hb : b = .agg Z8) : Ending.returned (.tuple #[b, .int .i64 17]) = v6E R := by rw [h, hb]; rfl
theorem v6_yes' {R : Option (List Nat)} {l : List Nat} (h : R = some l) : Ending.returned (.tuple #[.agg (A8 l), .int .i64 0]) = v6E R := by rw [h]; rfl
/-- a Boolean, or none -/
def PcM (w : World) (R : Option (List Nat)) (v : Value) (b : Bool) (w' : World) : Prop := R.isSome = b ∧ (∃ p n c, v = .slice p n c) ∧ ∀ l, R = some l → w'.ownsRow w.heap.size 26 1 v l.length (l.map u16V)
theorem pc_m {w w' : World} {R : Option (List Nat)} {e : Ending} (h : PcRet w R e w') : (∃ v b, e = .returned (.tuple #[v, .bool b]) ∧ PcM w R v b w') ∧ Below w.heap.size w w' := by
  refine ⟨?_, h.2⟩
  cases R with
  | none => exact ⟨_, _, h.1, rfl, ⟨_, _, _, rfl⟩, fun l hl => by cases hl⟩
  | some l =>
    obtain ⟨v, h1, h2⟩ := h.1
    refine ⟨v, true, h1, rfl, ?_, fun l' hl => by cases hl; exact h2⟩
    obtain ⟨q, c, rfl⟩ := wown_any h2
    exact ⟨_, _, _, rfl⟩
theorem occ2 (l : List UInt8) (i : Nat) : Lib.occAt l [58, 58] i = true ↔ (l.drop i).take 2 = [58, 58] := by
  unfold Lib.occAt
  rw [List.isPrefixOf_iff_prefix, List.prefix_iff_eq_take]
  exact eq_comm
theorem ext_two (s : ByteArray) (k : Nat) : (s.extract k (k + 2)).toList = (s.data.toList.drop k).take 2 := by rw [Lib.extract_toList]; congr 1; omega
/-- how far it has looked -/
def Lk (l : List UInt8) (k : Nat) (a : Int) : Prop := (a = -1 ∧ ∀ j, j < k → Lib.occAt l [58, 58] j = false) ∨ (0 ≤ a ∧ Lib.index l [58, 58] = a)
theorem ref_long {l : List UInt8} {k : Nat} (h : Lk l k (-1)) (hk : l.length ≤ k + 1) : refV6 l = match pcsM l with | none => none | some x => if x.length = 8 then some x else none := by
  have hi : Lib.index l [58, 58] = -1 := Lib.index_none fun j hj => by
    rcases h with ⟨_, h⟩ | ⟨h, _⟩
    · by_cases hjk : j < k
      · exact h j hjk
      · rw [Bool.eq_false_iff]
        intro ho
        rcases Lib.occAt_room ho with h2 | h2
        · simp at h2; omega
        · cases h2
    · omega
  have hc : Lib.cut l [58, 58] = (l, [], false) := by unfold Lib.cut; rw [hi]; rfl
  unfold refV6
  rw [hc]
  simp only [Bool.false_eq_true, if_false]
  cases pcsM l <;> rfl
theorem ref_cut {l : List UInt8} {k a : Nat} (h : Lk l k (a : Int)) : a + 2 ≤ l.length ∧ refV6 l = match pcs (l.take a) with
    | none => none
    | some x => match pcsM (l.drop (a + 2)) with
      | none => none
      | some y => if x.length + y.length ≤ 7 then some (x ++ List.replicate (8 - x.length - y.length) 0 ++ y) else none := by
  have hi : Lib.index l [58, 58] = (a : Int) := by
    rcases h with ⟨h, _⟩ | ⟨_, h⟩
    · omega
    · exact h
  have hr := Lib.index_room l [58, 58] (by omega)
  rw [hi] at hr
  simp only [List.length_cons, List.length_nil] at hr
  refine ⟨by omega, ?_⟩
  have hc : Lib.cut l [58, 58] = (l.take a, l.drop (a + 2), true) := by unfold Lib.cut; rw [hi, if_pos (by omega)]; rfl
  unfold refV6
  rw [hc]
  simp only [if_true]
  cases pcs (l.take a) with
  | none => rfl
  | some x => cases pcsM (l.drop (a + 2)) <;> rfl
end Go.Proofs.YtflddokngplgiaaDoor
