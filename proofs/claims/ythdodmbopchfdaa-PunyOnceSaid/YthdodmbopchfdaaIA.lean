import Derived.Test.YthdodmbopchfdaaPN
import Derived.Test.YthdodmbopchfdaaPM
import Derived.Shelf.Spec.SlicesInsertGrow
import Derived.Deep.Upon
import Derived.Lib.SlBuf
namespace Go.Proofs.Ythdodmbopchfdaa
open Go.RowKit
/-- what Insert leaves -/
def InsPost (B : Nat) (v : Value) (l : List Int) (w : World) (e : Ending) (w' : World) : Prop := ∃ v', e = .returned v' ∧ Own w' B v' l ∧ w.grownBy w' v.ownBlock
theorem ins_end (l : List Int) (x : Int) : P.ins l l.length x = l ++ [x] := by
  unfold P.ins; simp
theorem has_src {w : World} {vb : Nat} {x : Int} (h : Has w vb (.cells #[.int .i32 x] 21)) : ∀ j u, ([Value.int .i32 x])[j]? = some u → w.cell? ((⟨vb, 0, none⟩ : Addr).add j) = some u := World.news_of_block (cs := #[.int .i32 x]) (t := 21) (fr := (0, 0)) h
set_option maxRecDepth 100000 in
set_option maxHeartbeats 4000000 in
theorem insert_end (B : Nat) (v : Value) (l : List Int) (x : Int) (vb : Nat) (w : World) (hO : Own w B v l) (hV : Has w vb (.cells #[.int .i32 x] 21)) (hl : l.length ≤ 1048576) (hB : B ≤ w.heap.size) :
    Calls Try.prog 34 #[v, .int .i64 l.length, .slice (some ⟨vb, 0, none⟩) 1 1] w (InsPost B v (P.ins l l.length x) w) := by
  obtain ⟨i0, hi, hz0, hz1, hz2⟩ := info_parts infoRune
  rw [ins_end]
  obtain ⟨p, cap, rfl, _⟩ := hO.form
  have hcap : l.length ≤ cap := by
    rcases hO.2 with ⟨e, h0⟩ | ⟨g, cap', cur, e, _, _, hc, _⟩
    · omega
    · simp only [Value.slice.injEq] at e; omega
  have hmx : cap ≤ maxLen := by
    rcases hO.2 with ⟨e, h0⟩ | ⟨g, cap', cur, e, _, _, hc, hm, _⟩
    · simp only [Value.slice.injEq] at e; unfold maxLen; omega
    · simp only [Value.slice.injEq] at e; omega
  unfold maxLen at hmx
  have HO := Lib.hid hO
  have HV := Lib.hid hV
  clear hO hV
  by_cases hcl : cap = l.length
  all_goals
    go_enter Try.func34, Try.ntmps34
    go_wp2_with (at_builtin; refine wpList_append_own_at _ rfl _ _ 22 rfl B 21 i0 (.int .i32 0) 1 4 Try.underlying22 hi hz0 hz1 hz2 rfl (by decide) _ _ _ rfl HO.out ⟨vb, 0, none⟩ 1 1 [.int .i32 x] rfl rfl (has_src HV.out) (one32 x) (by unfold maxLen; omega) (by omega) hB ?_; intro v3 w3 hown3 hgrow3 _ _)
    go_ret
    exact ⟨v3, rfl, own_snoc hown3, hgrow3⟩
theorem setCells_block (g : Nat) (t : TypeId) : ∀ (vs : List Value) (o : Nat) (w : World) (cur : Array Value), w.heap[g]? = some (.cells cur t (0, 0)) → ∃ cur', (w.setCells g o vs).heap[g]? = some (.cells cur' t (0, 0)) ∧ cur'.size = cur.size
  | [], _, _, cur, h => ⟨cur, h, rfl⟩
  | u :: vs, o, w, cur, h => by
    have h1 : Has w g (.cells cur t) := h
    obtain ⟨c', h2, h3⟩ := setCells_block g t vs (o + 1) (w.setCell ⟨g, o, none⟩ u) _ (h1.set o u)
    exact ⟨c', h2, by rw [h3]; simp⟩
/-- a row of the call's own, out of its cells -/
theorem own_of_cells {w : World} {B g cap : Nat} {cur : Array Value} {l : List Int} (hB : B ≤ g) (hg : w.heap[g]? = some (.cells cur 21 (0, 0))) (hc : l.length ≤ cap) (hm : cap ≤ maxLen) (hs : cur.size = cap) (hx : ∀ j, j < l.length → w.cell? ⟨g, j, none⟩ = some (.int .i32 (l.getD j 0))) : Own w B (.slice (some ⟨g, 0, none⟩) l.length cap) l := by
  refine ⟨by simp, .inr ⟨g, cap, cur, rfl, hB, hg, hc, hm, by omega, ?_⟩⟩
  apply List.ext_getElem?
  intro j
  rw [List.getElem?_take, Array.getElem?_toList, Nat.mul_one, List.getElem?_map]
  by_cases hj : j < l.length
  · rw [if_pos hj]
    have h1 := hx j hj
    rw [cell_of_row w g j cur 21 (0, 0) hg] at h1
    rw [h1, List.getElem?_eq_getElem hj]
    simp [hj]
  · rw [if_neg hj, List.getElem?_eq_none (by omega)]; rfl
theorem ins_at (l : List Int) (i : Nat) (x : Int) (hi : i ≤ l.length) (j : Nat) : (P.ins l i x).getD j 0 = if j < i then l.getD j 0 else if j = i then x else l.getD (j - 1) 0 := by
  have hti : (l.take i).length = i := List.length_take_of_le hi
  unfold P.ins
  simp only [List.getD_eq_getElem?_getD]
  by_cases h1 : j < i
  · rw [if_pos h1, List.getElem?_append_left (by omega), List.getElem?_take, if_pos h1]
  · rw [if_neg h1, List.getElem?_append_right (by omega), hti]
    by_cases h2 : j = i
    · rw [if_pos h2, h2, Nat.sub_self]; rfl
    · rw [if_neg h2, show j - i = (j - i - 1) + 1 by omega, List.getElem?_cons_succ, List.getElem?_drop, show i + (j - i - 1) = j - 1 by omega]
theorem grown_setCells {w w' : World} {g : Nat} {row : Option Nat} (h : w.grownBy w' row) (hrow : row = some g ∨ w.heap.size ≤ g) (o : Nat) (vs : List Value) : w.grownBy (w'.setCells g o vs) row := by
  have hb := Lib.below_setCells (B := g) (b := g) (Nat.le_refl g) vs o (a := w') (w := w') (Below.refl _ _)
  refine ⟨hb.os.trans h.os, hb.tape.trans h.tape, hb.output.trans h.output, Nat.le_trans h.size hb.size, fun k hk hne => ?_⟩
  have hkg : k ≠ g := by
    rcases hrow with e | e
    · exact fun e2 => hne (by rw [e, e2])
    · omega
  exact (World.heap_setCells_other w' g o vs (Nat.lt_of_lt_of_le hk h.size) hkg).trans (h.block k hk hne)
theorem shape_of {w : World} {g : Nat} {cs : Array Value} {t : TypeId} (h : w.heap[g]? = some (.cells cs t (0, 0))) : w.shape? g = some (t, cs.size) := by
  unfold World.shape?
  rw [h]
end Go.Proofs.Ythdodmbopchfdaa
