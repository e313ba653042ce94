import Derived.Test.YtempmmkdppelaaaGreatDoorWBM
import Derived.Test.YtempmmkdppelaaaGreatDoorD4M
import Derived.Lib.OthersKept
/-
  strings.Builder's String, at a builder of the call's own in a block of any type T: it answers what the builder holds. No further conditions.
-/
namespace Go.Proofs.YtempmmkdppelaaaGreatDoor
open Go.RowKit Go.Shelf
set_option maxHeartbeats 1000000 in
set_option maxRecDepth 100000 in
theorem bString_some (T : TypeId) (B b : Nat) (l : List UInt8) (w : World) (h : IsB T B b l w) (h0 : l ≠ []) :
    Calls Tryz.prog 44 #[.pointer (some ⟨b, 0, none⟩)] w fun e w' => e = .returned (.string ⟨l.toArray⟩) ∧ Below B w w' ∧ Lib.OthersKept 5 (some b) w w' := by
  obtain ⟨p, hp, hAt⟩ : ∃ p, (p = .pointer none ∨ p = .pointer (some ⟨b, 0, none⟩)) ∧ Lib.BuilderAtF T 5 B b p (Lib.byteCells l) w := by
    rcases h with h | h
    · exact ⟨_, .inl rfl, h⟩
    · exact ⟨_, .inr rfl, h⟩
  obtain ⟨hB, v, hbk, hown, hne⟩ := hAt
  have hl0 : l.length ≠ 0 := by simpa using h0
  rw [Lib.byteCells_length] at hown
  obtain ⟨g, cap, cur, fz, rfl, hbg, hg, hfz, hnc, hcm, hcs, htake⟩ : ∃ g cap cur fz, v = .slice (some ⟨g, 0, none⟩) l.length cap ∧ B ≤ g ∧ w.heap[g]? = some (.cells cur 5 fz) ∧ fz.2 ≤ l.length * 1 ∧ l.length ≤ cap ∧ cap ≤ maxLen ∧ cur.size = cap * 1 ∧ cur.toList.take (l.length * 1) = Lib.byteCells l := by
    rcases hown.2 with ⟨_, hz⟩ | ⟨g, cap, cur, fz, hv, r⟩
    · exact absurd hz hl0
    · exact ⟨g, cap, cur, fz, hv, r⟩
  have c1 : w.drew.cell? ⟨b, 1, none⟩ = some (.slice (some ⟨g, 0, none⟩) l.length cap) := by
    have : w.drew.heap[b]? = some (.cells #[p, .slice (some ⟨g, 0, none⟩) l.length cap] T (0, 0)) := hbk
    rw [Lib.cell_of_heap this]; rfl
  have hSD : (Builtin.unsafeSliceData_ #[73] 99 #[.slice (some ⟨g, 0, none⟩) l.length cap]).run Tryz.prog w.drew = .ok (.pointer (some ⟨g, 0, none⟩)) w.drew :=
    Lib.run_unsafeSliceData_row _ _ _ _ _ _ (by omega)
  have hUS : (Builtin.unsafeString_ #[99, 3] 9 #[.pointer (some ⟨g, 0, none⟩), .int .i64 l.length]).run Tryz.prog w.drew = .ok (.string ⟨l.toArray⟩) (w.drew.freeze ⟨g, 0, none⟩ l.length) := by
    refine Lib.run_unsafeString_row w.drew 99 3 9 5 Tryz.underlying99 Tryz.Builder_Extra_169.cellsByte g cur.size (by have hg' : w.drew.heap[g]? = some (.cells cur 5 fz) := hg; simp [World.shape?, hg']) l h0 (by omega) (by unfold maxLen at hcm; omega) ?_
    intro j x hx
    exact hown.cells (g := g) rfl j (.int .u8 x.toNat) (by simp [Lib.byteCells, hx])
  have HK := Lib.hid (((Lib.OthersKept.refl 5 (some b) w).drew).freeze ⟨g, 0, none⟩ l.length ⟨cur, fz, hg⟩)
  have HB := Lib.hid (Lib.below_freeze (Below.drew (Below.refl B w)) (p := ⟨g, 0, none⟩) hbg l.length)
  clear h hbk hown hne hg htake hp hl0 h0
  go_enter Tryz.func44, Tryz.ntmps44
  go_wp2
  go_region
  all_goals (go_wp2; go_ret; exact ⟨rfl, HB.out, HK.out⟩)
set_option maxHeartbeats 1000000 in
set_option maxRecDepth 100000 in
theorem bString_none (T : TypeId) (B b : Nat) (w : World) (h : IsB T B b [] w) (hBw : B ≤ w.heap.size) :
    Calls Tryz.prog 44 #[.pointer (some ⟨b, 0, none⟩)] w fun e w' => e = .returned (.string ⟨#[]⟩) ∧ Below B w w' ∧ Lib.OthersKept 5 (some b) w w' := by
  have hUS : ∀ w q, (Builtin.unsafeString_ #[99, 3] 9 #[.pointer q, .int .i64 0]).run Tryz.prog w = .ok (.string .empty) w := fun w q => Lib.run_unsafeString_none w _ _ _ q
  obtain ⟨p, hB, v, hbk, hown, hne⟩ : ∃ p, Lib.BuilderAtF T 5 B b p (Lib.byteCells []) w := by
    rcases h with h | h
    · exact ⟨_, h⟩
    · exact ⟨_, h⟩
  have hlt : b < w.heap.size := lt_of_block hbk
  rcases hown.2 with ⟨rfl, _⟩ | ⟨g, cap, cur, fz, rfl, hbg, hg, _, _, _, _, _⟩
  · have c1 : w.drew.cell? ⟨b, 1, none⟩ = some (.slice none 0 0) := by
      have : w.drew.heap[b]? = some (.cells #[p, .slice none 0 0] T (0, 0)) := hbk
      rw [Lib.cell_of_heap this]; rfl
    have hSD : (Builtin.unsafeSliceData_ #[73] 99 #[.slice none 0 0]).run Tryz.prog w.drew = .ok (.pointer none) w.drew := rfl
    clear h hbk hown hne
    go_enter Tryz.func44, Tryz.ntmps44
    go_wp2
    go_region
    all_goals (go_wp2; go_ret; exact ⟨rfl, Below.drew (Below.refl B w), (Lib.OthersKept.refl _ _ w).drew⟩)
  · rw [show (Lib.byteCells []).length = 0 from rfl] at hbk
    by_cases hc0 : cap = 0
    · subst hc0
      have c1 : w.drew.cell? ⟨b, 1, none⟩ = some (.slice (some ⟨g, 0, none⟩) 0 0) := by
        have : w.drew.heap[b]? = some (.cells #[p, .slice (some ⟨g, 0, none⟩) 0 0] T (0, 0)) := hbk
        rw [Lib.cell_of_heap this]; rfl
      have hSD : (Builtin.unsafeSliceData_ #[73] 99 #[.slice (some ⟨g, 0, none⟩) 0 0]).run Tryz.prog w.drew = .ok (.pointer (some ⟨w.drew.heap.size, 0, none⟩)) (w.drew.alloc (.view ⟨g, 0, none⟩ 5)) :=
        Lib.run_unsafeSliceData_zero w.drew _ _ 5 Tryz.underlying99 ⟨g, 0, none⟩ 0 (5, cur.size) (by have hg' : w.drew.heap[g]? = some (.cells cur 5 fz) := hg; simp [World.shape?, hg'])
      have c2 : (w.drew.alloc (.view ⟨g, 0, none⟩ 5)).cell? ⟨b, 1, none⟩ = some (.slice (some ⟨g, 0, none⟩) 0 0) := by
        have : (w.drew.alloc (.view ⟨g, 0, none⟩ 5)).heap[b]? = _ := (Lib.alloc_old w.drew _ b hlt).trans hbk
        rw [Lib.cell_of_heap this]; rfl
      have c3 : (w.alloc (.view ⟨g, 0, none⟩ 5)).drew.cell? ⟨b, 1, none⟩ = some (.slice (some ⟨g, 0, none⟩) 0 0) := c2
      have c0 : w.cell? ⟨b, 1, none⟩ = some (.slice (some ⟨g, 0, none⟩) 0 0) := c1
      clear h hbk hown hne
      go_enter Tryz.func44, Tryz.ntmps44
      go_wp2
      go_region
      all_goals (go_wp2; go_ret; exact ⟨rfl, (Below.drew (Below.refl B w)).alloc hBw _, ((Lib.OthersKept.refl _ _ w).drew).alloc _⟩)
    · have c1 : w.drew.cell? ⟨b, 1, none⟩ = some (.slice (some ⟨g, 0, none⟩) 0 cap) := by
        have : w.drew.heap[b]? = some (.cells #[p, .slice (some ⟨g, 0, none⟩) 0 cap] T (0, 0)) := hbk
        rw [Lib.cell_of_heap this]; rfl
      have hSD : (Builtin.unsafeSliceData_ #[73] 99 #[.slice (some ⟨g, 0, none⟩) 0 cap]).run Tryz.prog w.drew = .ok (.pointer (some ⟨g, 0, none⟩)) w.drew :=
        Lib.run_unsafeSliceData_row _ _ _ _ _ _ hc0
      clear h hbk hown hne hc0
      go_enter Tryz.func44, Tryz.ntmps44
      go_wp2
      go_region
      all_goals (go_wp2; go_ret; exact ⟨rfl, Below.drew (Below.refl B w), (Lib.OthersKept.refl _ _ w).drew⟩)
theorem bString (T : TypeId) (B b : Nat) (l : List UInt8) (w : World) (h : IsB T B b l w) (hBw : B ≤ w.heap.size) :
    Calls Tryz.prog 44 #[.pointer (some ⟨b, 0, none⟩)] w fun e w' => e = .returned (.string ⟨l.toArray⟩) ∧ Below B w w' ∧ Lib.OthersKept 5 (some b) w w' := by
  cases l with
  | nil => exact bString_none T B b w h hBw
  | cons x r => exact bString_some T B b (x :: r) w h (by simp)
end Go.Proofs.YtempmmkdppelaaaGreatDoor
/-
  csp's Text.
-/
namespace Go.Proofs.YtempmmkdppelaaaGreatDoor
open Go.RowKit
theorem lt_of_block {w : World} {k : Nat} {o : Obj} (h : w.heap[k]? = some o) : k < w.heap.size := (Array.getElem?_eq_some_iff.1 h).1
theorem IsB.later {T : TypeId} {B b : Nat} {l : List UInt8} {w w' : World} (h : IsB T B b l w) (hb : Below w.heap.size w w') : IsB T B b l w' := by
  have key : ∀ p, Lib.BuilderAtF T 5 B b p (Lib.byteCells l) w → Lib.BuilderAtF T 5 B b p (Lib.byteCells l) w' := by
    rintro p ⟨hB, v, hbk, ⟨hn, hown⟩, hne⟩
    refine ⟨hB, v, (hb.block b (lt_of_block hbk)).trans hbk, ⟨hn, ?_⟩, hne⟩
    rcases hown with h | ⟨g, cap, cur, fz, hv, hBg, hg, rest⟩
    · exact .inl h
    · exact .inr ⟨g, cap, cur, fz, hv, hBg, (hb.block g (lt_of_block hg)).trans hg, rest⟩
  exact h.elim (fun x => .inl (key _ x)) (fun x => .inr (key _ x))
theorem IsB.lt {T : TypeId} {B b : Nat} {l : List UInt8} {w : World} (h : IsB T B b l w) : b < w.heap.size := h.elim (fun x => x.lt) (fun x => x.lt)
theorem len_list (s : ByteArray) : s.data.toList.length = s.size := by rw [Array.length_toList]; rfl
/-- a directive as text -/
def dirT (d : Dir) : List UInt8 := d.1.data.toList ++ d.2.flatMap (fun v => 32 :: v.data.toList)
/-- directives as text -/
def txtL : List Dir → List UInt8
  | [] => []
  | d :: l => dirT d ++ l.flatMap (fun x => [59, 32] ++ dirT x)
theorem txtL_snoc (l : List Dir) (d : Dir) : txtL (l ++ [d]) = (if l = [] then [] else txtL l ++ [59, 32]) ++ dirT d := by
  cases l with
  | nil => simp [txtL]
  | cons x l => simp [txtL]
theorem vals_snoc (l : List ByteArray) (k : Nat) (h : k < l.length) : (l.take (k + 1)).flatMap (fun v => 32 :: v.data.toList) = (l.take k).flatMap (fun v => 32 :: v.data.toList) ++ [32] ++ l[k].data.toList := by
  rw [List.take_succ_eq_append_getElem h, List.flatMap_append]; simp
theorem kept_has {w w' : World} {b k t : Nat} {cs : Array Value} (h : Lib.OthersKept 5 (some b) w w') (hk : Has w k (.cells cs t)) (hkb : k ≠ b) (ht : t ≠ 5) : Has w' k (.cells cs t) :=
  h k _ hk (fun e => hkb (Option.some.inj e)) (fun c fz e => by cases e; exact ht rfl)
theorem flat_le {α β : Type} (f : α → List β) (l : List α) (k : Nat) : ((l.take k).flatMap f).length ≤ (l.flatMap f).length := by
  conv => rhs; rw [← List.take_append_drop k l, List.flatMap_append, List.length_append]
  exact Nat.le_add_right _ _
theorem txtL_le (l : List Dir) (k : Nat) : (txtL (l.take k)).length ≤ (txtL l).length := by
  cases l with
  | nil => simp
  | cons x l =>
    cases k with
    | zero => simp [txtL]
    | succ k =>
      simp only [List.take_succ_cons, txtL, List.length_append]
      exact Nat.add_le_add_left (flat_le _ l k) _
set_option maxHeartbeats 4000000 in
set_option maxRecDepth 100000 in
theorem text_is (v : Value) (l : List Dir) (rep : Bool) (T : List UInt8) (r : Int) (hr : (okP l ∧ r = 0 ∧ txtL l = T) ∨ (¬ okP l ∧ r = 20 ∧ T = [])) (hT : T.length ≤ 1099511627776) (hm : l.length ≤ 4294967296) (hz : Small l) (w : World) (hv : Dirs w v l) :
    Calls Tryz.prog 14 #[.agg #[v, .bool rep]] w fun e w' => e = .returned (.tuple #[.string ⟨T.toArray⟩, .int .i64 r]) ∧ Below w.heap.size w w' := by
  have hv' := hv
  obtain ⟨p, cap, rfl, hcap, hA⟩ := hv
  obtain ⟨n, hn⟩ : ∃ n, l.length = n := ⟨_, rfl⟩
  have HN := Lib.hid hn
  have HZ := Lib.hid hz
  obtain ⟨X, hX⟩ : ∃ X, w.alloc (.cells #[.slice p n cap, .bool rep] 25) = X := ⟨_, rfl⟩
  have hB0 : Below w.heap.size w X := hX ▸ bnew w _
  have HB0 := Lib.hid hB0
  have HVX := Lib.hid (hv'.to hB0)
  have hXb : Has X w.heap.size (.cells #[.slice p n cap, .bool rep] 25) := hX ▸ Has.new w _
  have HXB := Lib.hid hXb
  have y0 := hXb.cell 0 rfl
  have y1 := hXb.cell 1 rfl
  have hsX : w.heap.size < X.heap.size := hXb.lt
  have HCK := Lib.hid (fun r' h => check_is (.slice p l.length cap) l rep r' h hm hz X (hv'.to hB0))
  rw [hn] at hm hcap HVX HCK ⊢
  clear hv' hA hz hB0 hXb
  by_cases hok : okP l
  · have hT0 : txtL l = T ∧ r = 0 := by
      rcases hr with ⟨_, h1, h2⟩ | ⟨h, _⟩
      · exact ⟨h2, h1⟩
      · exact absurd hok h
    obtain ⟨hT1, rfl⟩ := hT0
    have HT := Lib.hid hT1
    have HC := Lib.hid (HCK.out 0 (.inl ⟨hok, rfl⟩))
    clear hr hT1 HCK hok
    go_enter Tryz.func14, Tryz.ntmps14
    go_wp2_with fail
    refine HC.out.mono ?_
    rintro e w1 ⟨rfl, hb1⟩
    have HB1 := Lib.hid hb1
    have x0 := (hb1.cell (p := ⟨w.heap.size, 0, none⟩) hsX).trans y0
    have hs1 := hb1.size
    clear hb1
    have x1 := (World.cell?_alloc_past (w := w1) (.cells #[.pointer none, .slice none 0 0] 75) w.heap.size 0 (by omega)).trans x0
    have HIs := Lib.hid (show IsB 75 w1.heap.size w1.heap.size [] (w1.alloc (.cells #[.pointer none, .slice none 0 0] 75)) from .inl ⟨Nat.le_refl _, _, heap_alloc_new w1 _, ⟨rfl, .inl ⟨rfl, rfl⟩⟩, by simp [Value.ownBlock]⟩)
    have HBn := Lib.hid (bnew w1 (.cells #[.pointer none, .slice none 0 0] 75))
    go_wp2_with fail
    go_loopw [18] (fun i wr => ∃ k : Nat, k ≤ n ∧ i = .int .i64 k ∧ Hid (IsB 75 w1.heap.size w1.heap.size (txtL (l.take k)) wr) ∧ Hid (Below w1.heap.size w1 wr)) (fun i _ => n - (intOf i).toNat)
    case atStart => exact ⟨0, by omega, rfl, HIs, HBn⟩
    case round =>
      obtain ⟨k, hk, rfl, HI, HB⟩ := hrel
      have hsz := HB.out.size
      by_cases hlt : k < n
      · have hkl : k < l.length := by rw [HN.out]; exact hlt
        obtain ⟨p', cap', hp', _, hcc⟩ := HVX.out.to HB1.out
        simp only [Value.slice.injEq] at hp'
        obtain ⟨rfl, -, rfl⟩ := hp'
        obtain ⟨g, o, vs, rfl, hg, hx, hy, hzv⟩ := hcc k l[k] (getT hkl)
        have i1 : (k : Int) < (n : Int) := by omega
        have HSN := Lib.hid (show txtL (l.take (k + 1)) = (if l.take k = [] then [] else txtL (l.take k) ++ [59, 32]) ++ dirT l[k] by rw [List.take_succ_eq_append_getElem hkl, txtL_snoc])
        have hTk := txtL_le l k
        have hTk1 := txtL_le l (k + 1)
        rw [HT.out] at hTk hTk1
        obtain ⟨T1, hT1e⟩ : ∃ T1, txtL (l.take (k + 1)) = T1 := ⟨_, rfl⟩
        rw [hT1e] at HSN hTk1
        have HT1 := Lib.hid hT1e
        clear hT1e
        have HLE := Lib.hid (And.intro hTk hTk1)
        have HNIL := Lib.hid (show (k = 0 ∧ l.take k = []) ∨ (0 < k ∧ l.take k ≠ []) from by
          cases k with
          | zero => exact .inl ⟨rfl, rfl⟩
          | succ k => exact .inr ⟨by omega, fun e => by have := congrArg List.length e; rw [List.length_take_of_le (by omega)] at this; simp at this⟩)
        obtain ⟨q2, c2, hvs, hvc⟩ := hzv
        have HZB := Lib.hid (HZ.out _ (List.getElem_mem hkl))
        clear hcc hTk hTk1
        generalize l.take k = lt at *
        generalize l[k] = f at *
        obtain ⟨a, b⟩ := f
        subst hvs
        have hx3 : wr.cell? ⟨g, o + k * 2, none⟩ = some (.string a) := (HB.out.cell (p := ⟨g, o + k * 2, none⟩) hg).trans hx
        have hy3 : wr.cell? ⟨g, o + k * 2 + 1, none⟩ = some (.slice q2 b.length c2) := (HB.out.cell (p := ⟨g, o + k * 2 + 1, none⟩) hg).trans hy
        clear hx hy
        have HVC := Lib.hid hvc
        have hT40 : T.length ≤ 1099511627776 := hT
        obtain ⟨P, hP⟩ : ∃ P, (if lt = [] then [] else txtL lt ++ [59, 32]) = P := ⟨_, rfl⟩
        rw [hP] at HSN
        have HSN2 := Lib.hid (show T1 = P ++ a.data.toList ++ b.flatMap (fun v => 32 :: v.data.toList) by rw [HSN.out]; unfold dirT; simp)
        have hPl : P.length + a.size + (b.flatMap (fun v => 32 :: v.data.toList)).length ≤ T.length := by
          have h1 := HLE.out.2
          rw [HSN2.out, List.length_append, List.length_append, len_list] at h1
          exact h1
        have HP := Lib.hid hP
        clear hP hvc
        obtain ⟨X7, hX7⟩ : ∃ X7, wr.alloc (.cells #[.string a, .slice q2 b.length c2] 35) = X7 := ⟨_, rfl⟩
        have HB7 := Lib.hid (show Below wr.heap.size wr X7 from hX7 ▸ bnew wr _)
        have h7 : Has X7 wr.heap.size (.cells #[.string a, .slice q2 b.length c2] 35) := hX7 ▸ Has.new wr _
        have HK7 := Lib.hid h7
        have z0 := h7.cell 0 rfl
        have z1 := h7.cell 1 rfl
        have HI7 := Lib.hid (HI.out.later HB7.out)
        have HBA7 := Lib.hid (show Below w1.heap.size w1 X7 from HB.out.trans (HB7.out.mono hsz))
        have hbK : wr.heap.size ≠ w1.heap.size := by have := HI.out.lt; omega
        have HTL := Lib.hid (HLE.out.1)
        clear h7
        rcases HNIL.out with ⟨hk0, hlt0⟩ | ⟨hk0, hne⟩
        focus
          have HI8 := Lib.hid (show IsB 75 w1.heap.size w1.heap.size P X7 from by
            have h1 := HI7.out
            have h2 := HP.out
            rw [if_pos hlt0] at h2
            rw [hlt0] at h1
            rw [← h2]; exact h1)
          have g0 : ¬ (0 : Int) < (k : Int) := by omega
          have g0' : decide ((0 : Int) < (k : Int)) = false := decide_eq_false g0
          have g0'' : decide (0 < k) = false := by simp; omega
          obtain ⟨wA, rfl⟩ : ∃ wA, wA = X7 := ⟨_, rfl⟩
          have HIA := HI8
          have HKA := HK7
          have HBA := HBA7
          clear hk0 HI8 hlt0
          go_wp2_with fail
        rotate_left
        focus
          have g0 : (0 : Int) < (k : Int) := by omega
          have g0' : decide ((0 : Int) < (k : Int)) = true := decide_eq_true g0
          have g0'' : decide (0 < k) = true := by simp; omega
          have HPP := Lib.hid (show txtL lt ++ [59, 32] = P from by have := HP.out; rw [if_neg hne] at this; exact this)
          have HST := Lib.hid (bStr 75 bt47 w1.heap.size w1.heap.size (txtL lt) ⟨#[59, 32]⟩ X7 HI7.out (by have := HTL.out; show _ + 2 ≤ _; omega) HBA7.out.size)
          clear hk0 hne
          go_wp2_with fail
          refine HST.out.mono ?_
          rintro e wA ⟨rfl, hi, hb, ho⟩
          have HIA := Lib.hid (show IsB 75 w1.heap.size w1.heap.size P wA from by rw [← HPP.out]; exact hi)
          have HKA := Lib.hid (kept_has ho HK7.out hbK (by decide))
          have HBA := Lib.hid (HBA7.out.trans hb)
          have u0 := HKA.out.cell 0 rfl
          have u1 := HKA.out.cell 1 rfl
          clear hi hb ho
          go_wp2_with fail
        all_goals
          refine (bStr 75 bt47 w1.heap.size w1.heap.size P a wA HIA.out (by omega) HBA.out.size).mono ?_
          rintro e wB ⟨rfl, hi, hb, ho⟩
          have HIB := Lib.hid hi
          have HKB := Lib.hid (kept_has ho HKA.out hbK (by decide))
          have HBB := Lib.hid (HBA.out.trans hb)
          have t1 := HKB.out.cell 1 rfl
          clear hi hb ho
          have HLV := Lib.hid (fun j => flat_le (fun (v : ByteArray) => 32 :: v.data.toList) b j)
          obtain ⟨m, hmb⟩ : ∃ m, b.length = m := ⟨_, rfl⟩
          have HMB := Lib.hid hmb
          have hmb2 : m ≤ 4294967296 := by have h := HZB.out.2.1; have h2 : b.length ≤ 4294967296 := h; omega
          rw [hmb] at t1
          clear hmb
          go_wp2_with fail
          go_loopw [32] (fun i wr2 => ∃ j : Nat, j ≤ m ∧ i = .int .i64 j ∧ Hid (IsB 75 w1.heap.size w1.heap.size (P ++ a.data.toList ++ (b.take j).flatMap (fun v => 32 :: v.data.toList)) wr2) ∧ Hid (Below w1.heap.size w1 wr2)) (fun i _ => m - (intOf i).toNat)
          case atStart => exact ⟨0, by omega, rfl, Lib.hid (by simpa using HIB.out), HBB⟩
          case round =>
            obtain ⟨j, hj, rfl, HIJ, HBJ⟩ := hrel
            by_cases hjlt : j < m
            · have hjb : j < b.length := by rw [HMB.out]; exact hjlt
              have i3 : (j : Int) < (m : Int) := by omega
              obtain ⟨g3, o3, rfl, hg3, hx5⟩ := HVC.out j b[j] (getT hjb)
              have hx6 := (HBJ.out.cell (p := ⟨g3, o3 + j, none⟩) hg3).trans hx5
              have HVS := Lib.hid (vals_snoc b j hjb)
              have hl1 := HLV.out (j + 1)
              rw [HVS.out, List.length_append, List.length_append, len_list] at hl1
              simp only [List.length_cons, List.length_nil] at hl1
              have hl2 : (P ++ a.data.toList ++ (b.take j).flatMap (fun v => 32 :: v.data.toList)).length + 1 + b[j].size ≤ 1099511627776 := by
                rw [List.length_append, List.length_append, len_list]; omega
              clear hx5 hl1
              have HNX := Lib.hid (show P ++ a.data.toList ++ (b.take (j + 1)).flatMap (fun v => 32 :: v.data.toList) = P ++ a.data.toList ++ (b.take j).flatMap (fun v => 32 :: v.data.toList) ++ [32] ++ b[j].data.toList by rw [HVS.out]; simp)
              generalize P ++ a.data.toList ++ (b.take j).flatMap (fun v => 32 :: v.data.toList) = A at *
              generalize b[j] = x at *
              go_wp2_with fail
              refine (bByte 75 bt47 w1.heap.size w1.heap.size A 32 32 rfl _ HIJ.out (by omega) HBJ.out.size).mono ?_
              rintro e wC ⟨rfl, hi, hb, ho⟩
              have HIC := Lib.hid hi
              have HBC := Lib.hid (HBJ.out.trans hb)
              clear hi hb ho
              go_wp2_with fail
              refine (bStr 75 bt47 w1.heap.size w1.heap.size (A ++ [32]) x wC HIC.out (by rw [List.length_append]; simp only [List.length_cons, List.length_nil]; omega) HBC.out.size).mono ?_
              rintro e wD ⟨rfl, hi, hb, ho⟩
              have HID := Lib.hid hi
              have HBD := Lib.hid (HBC.out.trans hb)
              clear hi hb ho
              go_wp2
              go_roundw
              case rel => exact ⟨j + 1, by omega, by go_num, Lib.hid (by rw [HNX.out]; exact HID.out), HBD⟩
              case measure => simp [intOf]; omega
            · have HJM := Lib.hid (show b.take j = b by rw [List.take_of_length_le (by rw [HMB.out]; omega)])
              rw [HJM.out, ← HSN2.out] at HIJ
              go_wp2
              go_roundw
              case rel => exact ⟨k + 1, by omega, by go_num, Lib.hid (by rw [HT1.out]; exact HIJ.out), HBJ⟩
              case measure => simp [intOf]; omega
      · have HF := Lib.hid (show txtL (l.take k) = T by rw [List.take_of_length_le (by rw [HN.out]; omega), HT.out])
        rw [HF.out] at HI
        go_wp2_with fail
        refine (bString 75 w1.heap.size w1.heap.size T wr HI.out HB.out.size).mono ?_
        rintro e wE ⟨rfl, hb, ho⟩
        have HBF := Lib.hid (HB0.out.trans ((HB1.out.trans ((HB.out.trans hb).mono hs1)).mono HB0.out.size))
        clear hb ho
        go_wp2
        go_ret2
        exact ⟨rfl, HBF.out⟩
  · have hT0 : T = [] ∧ r = 20 := by
      rcases hr with ⟨h, _⟩ | ⟨_, h1, h2⟩
      · exact absurd h hok
      · exact ⟨h2, h1⟩
    obtain ⟨rfl, rfl⟩ := hT0
    have HC := Lib.hid (HCK.out 20 (.inr ⟨hok, rfl⟩))
    clear hr HCK hok
    go_enter Tryz.func14, Tryz.ntmps14
    go_wp2_with fail
    refine HC.out.mono ?_
    rintro e w1 ⟨rfl, hb1⟩
    have HBF := Lib.hid (HB0.out.trans (hb1.mono HB0.out.size))
    clear hb1
    go_wp2
    go_ret2
    exact ⟨rfl, HBF.out⟩
end Go.Proofs.YtempmmkdppelaaaGreatDoor
