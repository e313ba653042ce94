import Derived.Test.YthdodmbopchfdaaIA
namespace Go.Proofs.Ythdodmbopchfdaa
open Go.RowKit
theorem own_split {w : World} {B : Nat} {v : Value} {l : List Int} (h : Own w B v l) (hn : 0 < l.length) : ∃ g cap cur, v = .slice (some ⟨g, 0, none⟩) l.length cap ∧ B ≤ g ∧ w.heap[g]? = some (.cells cur 21 (0, 0)) ∧ l.length ≤ cap ∧ cap ≤ maxLen ∧ cur.size = cap ∧ (∀ j, j < l.length → w.cell? ⟨g, j, none⟩ = some (.int .i32 (l.getD j 0))) := by
  rcases h.2 with ⟨rfl, h0⟩ | ⟨g, cap, cur, rfl, hB, hg, hc, hm, hs, ht⟩
  · omega
  · refine ⟨g, cap, cur, rfl, hB, hg, hc, hm, by omega, fun j hj => ?_⟩
    have h1 := congrArg (fun x => x[j]?) ht
    simp only [List.getElem?_take, Array.getElem?_toList] at h1
    rw [if_pos (by omega), List.getElem?_map, List.getElem?_eq_getElem hj] at h1
    rw [cell_of_row w g j cur 21 (0, 0) hg, h1]
    simp [hj]
theorem drop_map_at (l : List Int) (i j : Nat) (u : Value) (h : ((l.map (Value.int .i32)).drop i)[j]? = some u) : i + j < l.length ∧ u = .int .i32 (l.getD (i + j) 0) := by
  rw [List.getElem?_drop, List.getElem?_map] at h
  cases hx : l[i + j]? with
  | none => rw [hx] at h; cases h
  | some x =>
    rw [hx] at h
    simp only [Option.map_some, Option.some.injEq] at h
    have hl := (List.getElem?_eq_some_iff.1 hx).1
    refine ⟨hl, ?_⟩
    rw [← h, List.getD_eq_getElem?_getD, hx]; rfl
theorem one_map (l : List Int) : ∀ u ∈ l.map (Value.int .i32), u.oneCell' = true := by
  intro u hu
  obtain ⟨x, _, rfl⟩ := List.mem_map.1 hu
  rfl
theorem size21 : (Try.prog.info? 21).map (·.size) = some 1 := by
  obtain ⟨i0, hi, hz0, hz1, hz2⟩ := info_parts infoRune
  rw [hi]; simp [hz1]
theorem run_copy_cells0 (w : World) (ty : TypeId) (b o dLen dCap b2 o2 sLen sCap : Nat) (cs : List Value) (hn : cs.length = min dLen sLen)
    (hc : ∀ j v, cs[j]? = some v → w.cell? ⟨b2, o2 + j, none⟩ = some v) (hd : ∀ j, j < cs.length → (w.cell? ⟨b, o + j, none⟩).isSome = true) (hf : ∀ j, j < cs.length → w.frozen? ⟨b, o + j, none⟩ = false) (h1 : ∀ v ∈ cs, v.oneCell' = true) :
    (Builtin.copy_ #[22, 22] ty #[.slice (some ⟨b, o, none⟩) dLen dCap, .slice (some ⟨b2, o2, none⟩) sLen sCap]).run Try.prog w = .ok (goInt cs.length) (w.setCells b o cs) :=
  run_copy_cells w 22 22 ty 21 b o dLen dCap ⟨b2, o2, none⟩ sLen sCap cs Try.underlying22 size21 (by rw [hn, Nat.min_comm]) (fun j v hj => by rw [Addr.add_lit]; exact hc j v hj) hd hf h1
set_option maxRecDepth 100000 in
set_option maxHeartbeats 4000000 in
theorem insert_room (B : Nat) (v : Value) (l : List Int) (i : Nat) (x : Int) (vb : Nat) (w : World) (hO : Own w B v l) (hV : Has w vb (.cells #[.int .i32 x] 21)) (hne : some vb ≠ v.ownBlock) (hl : l.length ≤ 1048576) (hi : i < l.length) (hroom : ∀ p n c, v = .slice p n c → n + 1 ≤ c) :
    Calls Try.prog 34 #[v, .int .i64 i, .slice (some ⟨vb, 0, none⟩) 1 1] w (InsPost B v (P.ins l i x) w) := by
  obtain ⟨g, cap, cur, rfl, hB, hg, hlc, hm, hs, hc⟩ := own_split hO (by omega)
  have hr := hroom _ _ _ rfl
  have hvg : vb ≠ g := fun e => hne (by rw [e]; rfl)
  have hgl : g < w.heap.size := (Array.getElem?_eq_some_iff.1 hg).1
  have hfz : ∀ j, w.frozen? ⟨g, j, none⟩ = false := fun j => Has.free (w := w) (cs := cur) (t := 21) hg j
  have hsome : ∀ j, j < cap → (w.cell? ⟨g, j, none⟩).isSome = true := fun j hj => by
    rw [cell_of_row w g j cur 21 (0, 0) hg, Array.getElem?_eq_getElem (by omega)]; rfl
  obtain ⟨n, hn⟩ : ∃ n, l.length = n := ⟨_, rfl⟩
  rw [hn] at hi hl hlc hr hc ⊢
  unfold maxLen at hm
  have hov : ∀ lb cb, (callFunc 44 #[.slice (some ⟨vb, 0, none⟩) 1 1, .slice (some ⟨g, i + 1, none⟩) lb cb]).run Try.prog w = .ok (.value (.bool false)) w := fun lb cb => by
    rw [run_callFunc_extern Try.func44 (by kernel_rfl) (by kernel_rfl) (by kernel_rfl) (e := Extern.SlicesOverlaps.overlaps #[22, 22] #[4]) (by kernel_rfl),
      Lib.run_overlaps_apart w 22 4 21 Try.underlying22 1 Try.sizeOf21 ⟨vb, 0, none⟩ ⟨g, i + 1, none⟩ 1 1 lb cb hvg 21 21 1 cap (shape_of hV) (by rw [shape_of hg, hs]) (by omega) (hV.free 0) (hV.free 1)]
    rfl
  have hcv : w.cell? ⟨vb, 0, none⟩ = some (.int .i32 x) := hV.cell 0 rfl
  obtain ⟨D, hD⟩ : ∃ D, (l.map (Value.int .i32)).drop i = D := ⟨_, rfl⟩
  have hDl : D.length = n - i := by rw [← hD, List.length_drop, List.length_map, hn]
  have hDc : ∀ j u, D[j]? = some u → w.cell? ⟨g, i + j, none⟩ = some u := fun j u hj => by
    rw [← hD] at hj
    obtain ⟨h1, rfl⟩ := drop_map_at l i j u hj
    exact hc (i + j) (by omega)
  have hD1 : ∀ u ∈ D, u.oneCell' = true := fun u hu => by rw [← hD] at hu; exact one_map l u (List.mem_of_mem_drop hu)
  have hcp1 : ∀ ty dl dc sl sc, dl = n - i → sl = n + 1 - i → (Builtin.copy_ #[22, 22] ty #[.slice (some ⟨g, i + 1, none⟩) dl dc, .slice (some ⟨g, i, none⟩) sl sc]).run Try.prog w.drew = .ok (goInt D.length) (w.drew.setCells g (i + 1) D) := fun ty dl dc sl sc e1 e2 => by
    subst e1 e2
    exact run_copy_cells0 w.drew ty g (i + 1) (n - i) dc g i (n + 1 - i) sc D (by rw [hDl]; omega) hDc (fun j hj => hsome _ (by omega)) (fun j hj => hfz _) hD1
  obtain ⟨W1, hW1⟩ : ∃ W1, W1 = w.drew.setCells g (i + 1) D := ⟨_, rfl⟩
  have hsome1 : ∀ k, k < cap → (W1.cell? ⟨g, k, none⟩).isSome = true := fun k hk => by
    rw [hW1]
    exact isSome_setCells g D (i + 1) w.drew (fun j hj => hsome _ (by omega)) _ (hsome k hk)
  have hcv1 : W1.cell? ⟨vb, 0, none⟩ = some (.int .i32 x) := by rw [hW1, World.cell?_setCells_out g _ _ _ _ (fun h _ => absurd h hvg)]; exact hcv
  have hfz1 : ∀ j, W1.frozen? ⟨g, j, none⟩ = false := fun j => by rw [hW1, World.frozen?_setCells]; exact hfz j
  have hcp2 : ∀ (W : World), (∀ y, W.cell? y = W1.cell? y) → (∀ y, W.frozen? y = W1.frozen? y) → ∀ ty dl dc, 1 ≤ dl → (Builtin.copy_ #[22, 22] ty #[.slice (some ⟨g, i, none⟩) dl dc, .slice (some ⟨vb, 0, none⟩) 1 1]).run Try.prog W = .ok (goInt 1) (W.setCells g i [.int .i32 x]) := fun W hWc hWf ty dl dc hdl =>
    run_copy_cells0 W ty g i dl dc vb 0 1 1 [.int .i32 x] (by simp; omega) (fun j u hj => by
      rw [hWc]
      match j, hj with
      | 0, hj => simp at hj; subst hj; exact hcv1) (fun j hj => by rw [hWc]; exact hsome1 _ (by simp at hj; omega)) (fun j hj => by rw [hWf]; exact hfz1 _) (one32 x)
  have HFin : Hid (Own ((w.drew.setCells g (i + 1) D).setCells g i [.int .i32 x]) B (.slice (some ⟨g, 0, none⟩) (n + 1) cap) (P.ins l i x) ∧ w.grownBy ((w.drew.setCells g (i + 1) D).setCells g i [.int .i32 x]) (some g)) := Lib.hid (by
    obtain ⟨c1, h1, h2⟩ := setCells_block g 21 D (i + 1) w.drew cur hg
    obtain ⟨c2, h3, h4⟩ := setCells_block g 21 [.int .i32 x] i _ c1 h1
    refine ⟨?_, grown_setCells (grown_setCells (show w.grownBy w.drew (some g) from ⟨rfl, rfl, rfl, Nat.le_refl _, fun _ _ _ => rfl⟩) (.inl rfl) _ _) (.inl rfl) _ _⟩
    have hlen : (P.ins l i x).length = n + 1 := by rw [P.ins_len, hn]
    have := own_of_cells (l := P.ins l i x) (cap := cap) hB h3 (by omega) (by unfold maxLen; omega) (by omega) (fun j hj => by
      rw [hlen] at hj
      rw [ins_at l i x (by omega) j]
      by_cases j2 : j = i
      · subst j2
        rw [if_neg (by omega), if_pos rfl]
        have := World.cell?_setCells_in g [.int .i32 x] j (w.drew.setCells g (j + 1) D) (fun k hk => by
          simp at hk; subst hk
          have := hsome1 j (by omega)
          rw [hW1] at this; exact this) 0 (by simp)
        simpa using this
      · rw [World.cell?_setCells_out g _ _ _ _ (fun _ _ => by simp; omega)]
        by_cases j1 : j < i
        · rw [if_pos j1, World.cell?_setCells_out g _ _ _ _ (fun _ _ => by left; dsimp only; omega)]
          exact hc j (by omega)
        · rw [if_neg j1, if_neg j2]
          have hj3 : j - (i + 1) < D.length := by omega
          have := World.cell?_setCells_in g D (i + 1) w.drew (fun k hk => hsome _ (by omega)) (j - (i + 1)) hj3
          rw [show i + 1 + (j - (i + 1)) = j by omega] at this
          rw [this]
          have hg2 := hDc (j - (i + 1)) _ (List.getElem?_eq_getElem hj3)
          have hg3 := hc (i + (j - (i + 1))) (by omega)
          rw [hg3] at hg2
          rw [show i + (j - (i + 1)) = j - 1 by omega] at hg2
          exact hg2.symm)
    rw [hlen] at this
    exact this)
  rw [← hW1] at hcp1 HFin
  have HC1 := Lib.hid hcp1
  have HC2 := Lib.hid hcp2
  have HOv := Lib.hid hov
  have hz2 : ¬ ((i : Int) = (n : Int)) := by omega
  have hb2 : ¬ (cap = i + 1) := by omega
  have hb4 : ¬ (cap = i) := by omega
  have hw1 : IntKind.i64.wrap ((i : Int) + 1) = (i : Int) + 1 := IntWalk.i64_in _ (by omega)
  have hw0 : (0 : Int) ≤ (i : Int) + 1 := by omega
  have htn : ((i : Int) + 1).toNat = i + 1 := by omega
  have hin : i ≤ n := by omega
  have hb3 : (i : Int) ≤ (n : Int) + 1 := by omega
  clear hW1 hcp1 hcp2 hov hcv1 hfz1 hsome1 hD1 hDc hDl hcv hsome hfz hc hg hs hO hV hroom hne hvg hn
  go_enter Try.func34, Try.ntmps34
  have hov := HOv.out
  go_wp2_with (simp only [hov])
  go_region_law (refine step_copy_runI rfl _ _ 22 22 rfl (.slice (some ⟨g, i + 1, none⟩) (n + 1 - (i + 1)) (cap - (i + 1))) (.slice (some ⟨g, i, none⟩) (n + 1 - i) (cap - i)) (by simp [Act.eval, Act.put]) (by simp [Act.eval, Act.put]) (HC1.out _ _ _ _ _ (by omega) rfl) ?_)
  go_wp2_with (refine wpList_copy_runI _ (by rfl) (.tmp 80) (.tmp 81) 22 22 (by rfl) (.slice (some ⟨g, i, none⟩) (n + 1 - i) (cap - i)) (.slice (some ⟨vb, 0, none⟩) 1 1) (by rfl) (by rfl) (HC2.out _ (fun _ => rfl) (fun _ => rfl) _ (n + 1 - i) (cap - i) (by omega)) ?_)
  go_ret
  exact ⟨_, rfl, HFin.out.1, HFin.out.2⟩
end Go.Proofs.Ythdodmbopchfdaa
