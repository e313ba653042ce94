import Derived.Test.YtempmmkdppelaaaGreatDoorD4M
import Derived.Test.YtempmmkdppelaaaGreatDoorWBM
/-
  csp's Find.
-/
namespace Go.Proofs.YtempmmkdppelaaaGreatDoor
open Go.RowKit
theorem results_cell_tmp {P : Program} {fn : Func} {p t2 : Tmp} {ty : TypeId} (h : fn.results = #[.cell p ty, .tmp t2]) (tmps : Array Value) (w : World) (g : Nat) (t : TypeId) (cs : Array Value) (fr : Nat × Nat) (d : TypeDesc)
    (hp : tmps.getD p undef = .pointer (some ⟨g, 0, none⟩)) (hg : w.heap[g]? = some (.cells cs t fr))
    (hu : P.underlying ty = some d) (hd : (match d with | .struct _ | .array _ _ => true | _ => false) = true) (hi : (P.info? ty).map (·.size) = some cs.size) :
    (results fn tmps).run P w = .ok (.tuple #[.agg cs, tmps.getD t2 undef]) w := by
  have hp' : tmps[p]?.getD undef = .pointer (some ⟨g, 0, none⟩) := by simpa using hp
  simp [results, h, hp', asAddr, run_loadVar_row w g t ty cs fr d hg hu hd hi]
theorem info35 : (Tryz.prog.info? 35).map (·.size) = some 2 := by kernel_rfl
theorem find_idx (nm : ByteArray) : ∀ l : List Dir, (idxI (isD nm) l = -1 ∧ l.find? (isD nm) = none) ∨ ∃ (k : Nat) (h : k < l.length), idxI (isD nm) l = k ∧ l.find? (isD nm) = some l[k]
  | [] => .inl ⟨rfl, rfl⟩
  | x :: l => by
    cases hx : isD nm x with
    | true => exact .inr ⟨0, by simp, by unfold idxI; rw [if_pos hx]; rfl, by rw [List.find?_cons, hx]; rfl⟩
    | false =>
      rcases find_idx nm l with ⟨h1, h2⟩ | ⟨k, hk, h1, h2⟩
      · exact .inl ⟨by unfold idxI; rw [if_neg (by rw [hx]; simp), if_pos h1], by rw [List.find?_cons, hx]; exact h2⟩
      · refine .inr ⟨k + 1, by simpa using hk, ?_, by rw [List.find?_cons, hx]; simpa using h2⟩
        unfold idxI
        rw [if_neg (by rw [hx]; simp), if_neg (by omega), h1]; simp
/-- the first directive of a name -/
def findD (nm : ByteArray) (l : List Dir) : List ByteArray × Bool := match l.find? (isD nm) with | some d => (d.2, true) | none => ([], false)
set_option maxHeartbeats 4000000 in
set_option maxRecDepth 100000 in
theorem find_is (v : Value) (l : List Dir) (rep : Bool) (nm : ByteArray) (hnm : nm.size ≤ 281474976710656) (hm : l.length ≤ 4294967296) (hz : Small l) (w : World) (hv : Dirs w v l) :
    Calls Tryz.prog 16 #[.agg #[v, .bool rep], .string nm] w fun e w' => (∃ q c, e = .returned (.tuple #[.agg #[.string (if (findD nm l).2 then nm else ⟨#[]⟩), .slice q (findD nm l).1.length c], .bool (findD nm l).2]) ∧ OwnS w' w.heap.size (.slice q (findD nm l).1.length c) (findD nm l).1) ∧ Below w.heap.size w w' := by
  have hv' := hv
  obtain ⟨p, cap, rfl, hcap, hA⟩ := hv
  obtain ⟨n, hn⟩ : ∃ n, l.length = n := ⟨_, rfl⟩
  have HN := Lib.hid hn
  have HZ := Lib.hid hz
  obtain ⟨X, hX⟩ : ∃ X, (w.alloc (.cells #[.slice p n cap, .bool rep] 25)).alloc (.cells #[.string ⟨#[]⟩, .slice none 0 0] 35) = X := ⟨_, rfl⟩
  have hB0 : Below w.heap.size w X := hX ▸ (bnew w _).alloc (by simp) _
  have hsX : X.heap.size = w.heap.size + 2 := by rw [← hX]; simp
  have HB0 := Lib.hid hB0
  have HVX := Lib.hid (hv'.to hB0)
  have HX0 := Lib.hid (show X.cell? ⟨w.heap.size, 0, none⟩ = some (.slice p n cap) from hX ▸ (World.cell?_alloc_past (w := w.alloc (.cells #[.slice p n cap, .bool rep] 25)) _ w.heap.size 0 (by simp)).trans (cell_of_row _ _ 0 _ _ _ (heap_alloc_new w _)))
  have hXb : X.heap[w.heap.size + 1]? = some (.cells #[.string ⟨#[]⟩, .slice none 0 0] 35 (0, 0)) := by
    have := heap_alloc_new (w.alloc (.cells #[.slice p n cap, .bool rep] 25)) (.cells #[.string ⟨#[]⟩, .slice none 0 0] 35)
    rw [hX] at this; simpa using this
  have HXB := Lib.hid (show Has X (w.heap.size + 1) (.cells #[.string ⟨#[]⟩, .slice none 0 0] 35) from hXb)
  have HSX := Lib.hid hsX
  have hsX' : w.heap.size + 2 ≤ X.heap.size := by omega
  rw [hn] at hm hcap HVX ⊢
  clear hv' hA hz hB0 hXb hsX
  have HIX := Lib.hid (fun (r : Int) (hr : idxI (isD nm) l = r) => (indexNamed nm X.heap.size (.slice p n cap) l r hr (by rw [HN.out]; omega) (X.alloc (.cells #[.string nm] 9)).drew ((HVX.out.to (bnew X _)).to (Below.refl _ _).drew) (Boxed.new X 9 _)).mono fun e w' h => (⟨h.1, ((bnew X (.cells #[.string nm] 9)).drew).trans (h.2.mono (by simp))⟩ : e = .returned (.int .i64 r) ∧ Below X.heap.size X w'))
  have HD := Lib.hid (show Below X.heap.size X X.drew from (Below.refl _ _).drew)
  have y0 := HX0.out
  have y1 : (X.alloc (.cells #[.string nm] 9)).cell? ⟨w.heap.size, 0, none⟩ = some (.slice p n cap) := (World.cell?_alloc_past (w := X) _ w.heap.size 0 (by omega)).trans y0
  rcases find_idx nm l with ⟨hix, hf⟩ | ⟨k, hk, hix, hf⟩
  · have HF := Lib.hid (show findD nm l = ([], false) by unfold findD; rw [hf])
    have HI2 := Lib.hid (HIX.out _ hix)
    rw [HF.out]
    clear hix hf HIX
    go_enter Tryz.func16, Tryz.ntmps16
    go_wp2_with fail
    go_region_law (first
      | (go_simp; refine (mk_named nm _).mono ?_; rintro e w2 ⟨rfl, rfl⟩)
      | (go_simp; refine HI2.out.mono ?_; rintro e w3 ⟨rfl, hb3⟩; have HB3 := Lib.hid hb3; clear hb3))
    all_goals
      have hbk := HXB.out.to HB3.out
      have z0 := hbk.cell 0 rfl
      have z1 := hbk.cell 1 rfl
      have f0 := hbk.free 0
      have f1 := hbk.free 1
      have HBK := Lib.hid hbk
      clear hbk
      have HBF := Lib.hid (show Below w.heap.size w ((w3.setCell ⟨w.heap.size + 1, 0, none⟩ (.string ⟨#[]⟩)).setCell ⟨w.heap.size + 1, 1, none⟩ (.slice none 0 0)) from ((HB0.out.trans (HB3.out.mono (by omega))).setCell (p := ⟨w.heap.size + 1, 0, none⟩) (Nat.le_succ _) _).setCell (p := ⟨w.heap.size + 1, 1, none⟩) (Nat.le_succ _) _)
      have HHF := Lib.hid ((HBK.out.set 0 (.string ⟨#[]⟩)).set 1 (.slice none 0 0))
      go_wp2
      exact bodyPost_ret (results_cell_tmp rfl _ _ (w.heap.size + 1) 35 _ (0, 0) _ rfl HHF.out Tryz.underlying35 rfl info35) rfl ⟨⟨none, 0, rfl, World.ownsRow_nil _ _ _ _⟩, HBF.out⟩
  · obtain ⟨k', hk'⟩ : ∃ k', l[k] = k' := ⟨_, rfl⟩
    obtain ⟨p', cap', hp', _, hcc⟩ := HVX.out
    simp only [Value.slice.injEq] at hp'
    obtain ⟨rfl, -, rfl⟩ := hp'
    obtain ⟨g, o, vs, rfl, hg, hx, hy, hzv⟩ := hcc k l[k] (getT hk)
    have HF := Lib.hid (show findD nm l = (l[k].2, true) by unfold findD; rw [hf])
    have HZK := Lib.hid (HZ.out _ (List.getElem_mem hk))
    have HI2 := Lib.hid (HIX.out _ hix)
    have i1 : (k : Int) < (n : Int) := by have := HN.out; omega
    have HTX := Lib.hid (fun (w4 : World) (h : Below X.heap.size X w4) => texts_is vs l[k].2 (by have := HZK.out.2.1; omega) (fun x hx => by have := HZK.out.2.2 x hx; omega) w4 (hzv.to h))
    rw [HF.out]
    have HCN := Lib.hid (fun w4 => clone_is nm w4 hnm)
    have HY := Lib.hid hy
    obtain ⟨q2, c2, hvs, _⟩ := hzv
    have hnk : ¬ (k : Int) < 0 := by omega
    clear hix hf HIX hcc hx hk'
    generalize l[k] = f at *
    obtain ⟨a, b⟩ := f
    dsimp only at *
    subst hvs
    go_enter Tryz.func16, Tryz.ntmps16
    go_wp2_with fail
    go_region_law (first
      | (go_simp; refine (mk_named nm _).mono ?_; rintro e w2 ⟨rfl, rfl⟩)
      | (go_simp; refine HI2.out.mono ?_; rintro e w3 ⟨rfl, hb3⟩; have HB3 := Lib.hid hb3; clear hb3))
    all_goals
      have hbk := HXB.out.to HB3.out
      have HBK := Lib.hid hbk
      have x0 := (HB3.out.cell (p := ⟨w.heap.size, 0, none⟩) (show w.heap.size < X.heap.size by omega)).trans HX0.out
      have x1 := (HB3.out.cell (p := ⟨g, o + k * 2 + 1, none⟩) hg).trans HY.out
      have hs3 := HB3.out.size
      clear hbk
      go_wp2_with fail
      have HD3 := Lib.hid (show Below X.heap.size X w3.drew from HB3.out.drew)
      go_region_law (first
        | (go_simp; refine (HCN.out _).mono ?_; rintro e w4 ⟨rfl, hb4⟩; have HB4 := Lib.hid (show Below X.heap.size X w4 from HD3.out.trans (hb4.mono HD3.out.size)); have x2 := (HB4.out.cell (p := ⟨w.heap.size, 0, none⟩) (show w.heap.size < X.heap.size by omega)).trans HX0.out; have x3 := (HB4.out.cell (p := ⟨g, o + k * 2 + 1, none⟩) hg).trans HY.out; clear hb4)
        | (go_simp; refine (HTX.out _ HB4.out).mono ?_; rintro e w5 ⟨⟨q5, c5, rfl, ho5⟩, hb5⟩; have HB5 := Lib.hid (show Below X.heap.size X w5 from HB4.out.trans (hb5.mono HB4.out.size)); have HO5 := Lib.hid (own_base ho5 (show X.heap.size ≤ _ from HB4.out.size)); have HK5 := Lib.hid (HXB.out.to HB5.out); have z0 := HK5.out.cell 0 rfl; have z1 := HK5.out.cell 1 rfl; have f0 := HK5.out.free 0; have f1 := HK5.out.free 1; clear ho5 hb5))
      all_goals
        have HBF := Lib.hid (show Below w.heap.size w ((w5.setCell ⟨w.heap.size + 1, 0, none⟩ (.string nm)).setCell ⟨w.heap.size + 1, 1, none⟩ (.slice q5 b.length c5)) from ((HB0.out.trans (HB5.out.mono (by omega))).setCell (p := ⟨w.heap.size + 1, 0, none⟩) (Nat.le_succ _) _).setCell (p := ⟨w.heap.size + 1, 1, none⟩) (Nat.le_succ _) _)
        have HHF := Lib.hid ((HK5.out.set 0 (.string nm)).set 1 (.slice q5 b.length c5))
        have HOF := Lib.hid (show OwnS ((w5.setCell ⟨w.heap.size + 1, 0, none⟩ (.string nm)).setCell ⟨w.heap.size + 1, 1, none⟩ (.slice q5 b.length c5)) w.heap.size (.slice q5 b.length c5) b from by
          have hne : ∀ v : Value, v = .slice q5 b.length c5 → some (w.heap.size + 1) ≠ v.ownBlock := fun v hv e => by
            have := HO5.out.lt (w.heap.size + 1) (by rw [← hv]; exact e.symm)
            omega
          have a1 := HO5.out.kept (grownBy_set w5 (w.heap.size + 1) 0 (.string nm)) (.inr (fun e => hne _ rfl e.symm))
          have a2 := a1.kept (grownBy_set _ (w.heap.size + 1) 1 (.slice q5 b.length c5)) (.inr (fun e => hne _ rfl e.symm))
          exact own_base a2 (by omega))
        go_wp2
        exact bodyPost_ret (results_cell_tmp rfl _ _ (w.heap.size + 1) 35 _ (0, 0) _ rfl HHF.out Tryz.underlying35 rfl info35) rfl ⟨⟨q5, c5, rfl, HOF.out⟩, HBF.out⟩
end Go.Proofs.YtempmmkdppelaaaGreatDoor
/-
  strings.Builder's String, at a builder of the call's own in a block of any type T: it answers what the builder holds. No further conditions.
-/
namespace Go.Proofs.YtempmmkdppelaaaGreatDoor
open Go.RowKit Go.Shelf
set_option maxHeartbeats 1000000 in
set_option maxRecDepth 100000 in
theorem bString_some (T : TypeId) (B b : Nat) (l : List UInt8) (w : World) (h : IsB T B b l w) (h0 : l ≠ []) :
    Calls Tryz.prog 44 #[.pointer (some ⟨b, 0, none⟩)] w fun e w' => e = .returned (.string ⟨l.toArray⟩) ∧ Below B w w' ∧ Lib.OthersKept 5 (some b) w w' := by
  obtain ⟨p, hp, hAt⟩ : ∃ p, (p = .pointer none ∨ p = .pointer (some ⟨b, 0, none⟩)) ∧ Lib.BuilderAtF T 5 B b p (Lib.byteCells l) w := by
    rcases h with h | h
    · exact ⟨_, .inl rfl, h⟩
    · exact ⟨_, .inr rfl, h⟩
  obtain ⟨hB, v, hbk, hown, hne⟩ := hAt
  have hl0 : l.length ≠ 0 := by simpa using h0
  rw [Lib.byteCells_length] at hown
  obtain ⟨g, cap, cur, fz, rfl, hbg, hg, hfz, hnc, hcm, hcs, htake⟩ : ∃ g cap cur fz, v = .slice (some ⟨g, 0, none⟩) l.length cap ∧ B ≤ g ∧ w.heap[g]? = some (.cells cur 5 fz) ∧ fz.2 ≤ l.length * 1 ∧ l.length ≤ cap ∧ cap ≤ maxLen ∧ cur.size = cap * 1 ∧ cur.toList.take (l.length * 1) = Lib.byteCells l := by
    rcases hown.2 with ⟨_, hz⟩ | ⟨g, cap, cur, fz, hv, r⟩
    · exact absurd hz hl0
    · exact ⟨g, cap, cur, fz, hv, r⟩
  have c1 : w.drew.cell? ⟨b, 1, none⟩ = some (.slice (some ⟨g, 0, none⟩) l.length cap) := by
    have : w.drew.heap[b]? = some (.cells #[p, .slice (some ⟨g, 0, none⟩) l.length cap] T (0, 0)) := hbk
    rw [Lib.cell_of_heap this]; rfl
  have hSD : (Builtin.unsafeSliceData_ #[73] 99 #[.slice (some ⟨g, 0, none⟩) l.length cap]).run Tryz.prog w.drew = .ok (.pointer (some ⟨g, 0, none⟩)) w.drew :=
    Lib.run_unsafeSliceData_row _ _ _ _ _ _ (by omega)
  have hUS : (Builtin.unsafeString_ #[99, 3] 9 #[.pointer (some ⟨g, 0, none⟩), .int .i64 l.length]).run Tryz.prog w.drew = .ok (.string ⟨l.toArray⟩) (w.drew.freeze ⟨g, 0, none⟩ l.length) := by
    refine Lib.run_unsafeString_row w.drew 99 3 9 5 Tryz.underlying99 Tryz.Builder_Extra_169.cellsByte g cur.size (by have hg' : w.drew.heap[g]? = some (.cells cur 5 fz) := hg; simp [World.shape?, hg']) l h0 (by omega) (by unfold maxLen at hcm; omega) ?_
    intro j x hx
    exact hown.cells (g := g) rfl j (.int .u8 x.toNat) (by simp [Lib.byteCells, hx])
  have HK := Lib.hid (((Lib.OthersKept.refl 5 (some b) w).drew).freeze ⟨g, 0, none⟩ l.length ⟨cur, fz, hg⟩)
  have HB := Lib.hid (Lib.below_freeze (Below.drew (Below.refl B w)) (p := ⟨g, 0, none⟩) hbg l.length)
  clear h hbk hown hne hg htake hp hl0 h0
  go_enter Tryz.func44, Tryz.ntmps44
  go_wp2
  go_region
  all_goals (go_wp2; go_ret; exact ⟨rfl, HB.out, HK.out⟩)
set_option maxHeartbeats 1000000 in
set_option maxRecDepth 100000 in
theorem bString_none (T : TypeId) (B b : Nat) (w : World) (h : IsB T B b [] w) (hBw : B ≤ w.heap.size) :
    Calls Tryz.prog 44 #[.pointer (some ⟨b, 0, none⟩)] w fun e w' => e = .returned (.string ⟨#[]⟩) ∧ Below B w w' ∧ Lib.OthersKept 5 (some b) w w' := by
  have hUS : ∀ w q, (Builtin.unsafeString_ #[99, 3] 9 #[.pointer q, .int .i64 0]).run Tryz.prog w = .ok (.string .empty) w := fun w q => Lib.run_unsafeString_none w _ _ _ q
  obtain ⟨p, hB, v, hbk, hown, hne⟩ : ∃ p, Lib.BuilderAtF T 5 B b p (Lib.byteCells []) w := by
    rcases h with h | h
    · exact ⟨_, h⟩
    · exact ⟨_, h⟩
  have hlt : b < w.heap.size := lt_of_block hbk
  rcases hown.2 with ⟨rfl, _⟩ | ⟨g, cap, cur, fz, rfl, hbg, hg, _, _, _, _, _⟩
  · have c1 : w.drew.cell? ⟨b, 1, none⟩ = some (.slice none 0 0) := by
      have : w.drew.heap[b]? = some (.cells #[p, .slice none 0 0] T (0, 0)) := hbk
      rw [Lib.cell_of_heap this]; rfl
    have hSD : (Builtin.unsafeSliceData_ #[73] 99 #[.slice none 0 0]).run Tryz.prog w.drew = .ok (.pointer none) w.drew := rfl
    clear h hbk hown hne
    go_enter Tryz.func44, Tryz.ntmps44
    go_wp2
    go_region
    all_goals (go_wp2; go_ret; exact ⟨rfl, Below.drew (Below.refl B w), (Lib.OthersKept.refl _ _ w).drew⟩)
  · rw [show (Lib.byteCells []).length = 0 from rfl] at hbk
    by_cases hc0 : cap = 0
    · subst hc0
      have c1 : w.drew.cell? ⟨b, 1, none⟩ = some (.slice (some ⟨g, 0, none⟩) 0 0) := by
        have : w.drew.heap[b]? = some (.cells #[p, .slice (some ⟨g, 0, none⟩) 0 0] T (0, 0)) := hbk
        rw [Lib.cell_of_heap this]; rfl
      have hSD : (Builtin.unsafeSliceData_ #[73] 99 #[.slice (some ⟨g, 0, none⟩) 0 0]).run Tryz.prog w.drew = .ok (.pointer (some ⟨w.drew.heap.size, 0, none⟩)) (w.drew.alloc (.view ⟨g, 0, none⟩ 5)) :=
        Lib.run_unsafeSliceData_zero w.drew _ _ 5 Tryz.underlying99 ⟨g, 0, none⟩ 0 (5, cur.size) (by have hg' : w.drew.heap[g]? = some (.cells cur 5 fz) := hg; simp [World.shape?, hg'])
      have c2 : (w.drew.alloc (.view ⟨g, 0, none⟩ 5)).cell? ⟨b, 1, none⟩ = some (.slice (some ⟨g, 0, none⟩) 0 0) := by
        have : (w.drew.alloc (.view ⟨g, 0, none⟩ 5)).heap[b]? = _ := (Lib.alloc_old w.drew _ b hlt).trans hbk
        rw [Lib.cell_of_heap this]; rfl
      have c3 : (w.alloc (.view ⟨g, 0, none⟩ 5)).drew.cell? ⟨b, 1, none⟩ = some (.slice (some ⟨g, 0, none⟩) 0 0) := c2
      have c0 : w.cell? ⟨b, 1, none⟩ = some (.slice (some ⟨g, 0, none⟩) 0 0) := c1
      clear h hbk hown hne
      go_enter Tryz.func44, Tryz.ntmps44
      go_wp2
      go_region
      all_goals (go_wp2; go_ret; exact ⟨rfl, (Below.drew (Below.refl B w)).alloc hBw _, ((Lib.OthersKept.refl _ _ w).drew).alloc _⟩)
    · have c1 : w.drew.cell? ⟨b, 1, none⟩ = some (.slice (some ⟨g, 0, none⟩) 0 cap) := by
        have : w.drew.heap[b]? = some (.cells #[p, .slice (some ⟨g, 0, none⟩) 0 cap] T (0, 0)) := hbk
        rw [Lib.cell_of_heap this]; rfl
      have hSD : (Builtin.unsafeSliceData_ #[73] 99 #[.slice (some ⟨g, 0, none⟩) 0 cap]).run Tryz.prog w.drew = .ok (.pointer (some ⟨g, 0, none⟩)) w.drew :=
        Lib.run_unsafeSliceData_row _ _ _ _ _ _ hc0
      clear h hbk hown hne hc0
      go_enter Tryz.func44, Tryz.ntmps44
      go_wp2
      go_region
      all_goals (go_wp2; go_ret; exact ⟨rfl, Below.drew (Below.refl B w), (Lib.OthersKept.refl _ _ w).drew⟩)
theorem bString (T : TypeId) (B b : Nat) (l : List UInt8) (w : World) (h : IsB T B b l w) (hBw : B ≤ w.heap.size) :
    Calls Tryz.prog 44 #[.pointer (some ⟨b, 0, none⟩)] w fun e w' => e = .returned (.string ⟨l.toArray⟩) ∧ Below B w w' ∧ Lib.OthersKept 5 (some b) w w' := by
  cases l with
  | nil => exact bString_none T B b w h hBw
  | cons x r => exact bString_some T B b (x :: r) w h (by simp)
end Go.Proofs.YtempmmkdppelaaaGreatDoor
