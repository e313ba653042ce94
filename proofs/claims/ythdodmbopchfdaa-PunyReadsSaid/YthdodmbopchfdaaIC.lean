import Derived.Test.YthdodmbopchfdaaIB
namespace Go.Proofs.Ythdodmbopchfdaa
open Go.RowKit
set_option maxRecDepth 100000 in
set_option maxHeartbeats 4000000 in
theorem insert_grow (B : Nat) (v : Value) (l : List Int) (i : Nat) (x : Int) (vb : Nat) (w : World) (hO : Own w B v l) (hV : Has w vb (.cells #[.int .i32 x] 21)) (hBw : B ≤ w.heap.size) (hl : l.length ≤ 1048576) (hi : i < l.length) (hroom : ∀ p n c, v = .slice p n c → c < n + 1) :
    Calls Try.prog 34 #[v, .int .i64 i, .slice (some ⟨vb, 0, none⟩) 1 1] w (InsPost B v (P.ins l i x) w) := by
  obtain ⟨g, cap, cur, rfl, hB, hg, hlc, hm, hs, hc⟩ := own_split hO (by omega)
  have hr := hroom _ _ _ rfl
  obtain ⟨i0, hi0, hz0, hzs, hzb⟩ := info_parts infoRune
  have hgl : g < w.heap.size := (Array.getElem?_eq_some_iff.1 hg).1
  have hvl := hV.lt
  obtain ⟨n, hn⟩ : ∃ n, l.length = n := ⟨_, rfl⟩
  rw [hn] at hi hl hlc hr hc ⊢
  obtain rfl : cap = n := by omega
  obtain ⟨H, hH⟩ : ∃ H, w.heap.size = H := ⟨_, rfl⟩
  obtain ⟨G, hG⟩ : ∃ G, grownCap w (cap + 1) cap 21 = G := ⟨_, rfl⟩
  have hGn : cap + 1 ≤ G := by rw [← hG]; exact grownCap_ge w _ _ _
  have hGm : G ≤ maxLen := by rw [← hG]; exact grownCap_le_maxLen w _ _ _ (by unfold maxLen; omega)
  obtain ⟨ROW, hROW⟩ : ∃ ROW : Array Value, ((l.map (Value.int .i32)).take i).toArray ++ Builtin.zeroCells (Value.int .i32 0).cells (cap + 1 - i) ++ Builtin.zeroCells (Value.int .i32 0).cells (G - (cap + 1)) = ROW := ⟨_, rfl⟩
  have hRs : ROW.size = G := by
    rw [← hROW]
    simp [Builtin.zeroCells, Value.cells, hn]
    omega
  have hRc : ∀ j, j < i → ROW[j]? = some (.int .i32 (l.getD j 0)) := fun j hj => by
    have hjl : j < l.length := by omega
    rw [← hROW, Array.append_assoc, Array.getElem?_append_left (by simp; omega), List.getElem?_toArray, List.getElem?_take, if_pos hj, List.getElem?_map, List.getElem?_eq_getElem hjl]
    simp [hjl]
  have hcT : ∀ j u, ((l.map (Value.int .i32)).take i)[j]? = some u → w.cell? ⟨g, j, none⟩ = some u := fun j u hj => by
    rw [List.getElem?_take] at hj
    split at hj
    · rename_i hji
      have hjl : j < l.length := by omega
      rw [List.getElem?_map, List.getElem?_eq_getElem hjl] at hj
      simp only [Option.map_some, Option.some.injEq] at hj
      rw [hc j (by omega), ← hj]
      simp [hjl]
    · cases hj
  have hold : (Builtin.firstCells i0.size i (.slice (some ⟨g, 0, none⟩) i cap)).run Try.prog w.drew = .ok ((l.map (Value.int .i32)).take i).toArray w.drew := by
    rw [hzs]
    exact run_firstCells_some w.drew 1 i ⟨g, 0, none⟩ i cap _ (by rw [List.length_take, List.length_map]; omega) (fun j u hj => by rw [Addr.add_lit, Nat.zero_add]; exact hcT j u hj)
  have hkk : (cap : Int) + 1 - (i : Int) = ((cap + 1 - i : Nat) : Int) := by omega
  have hik : i + (cap + 1 - i) = cap + 1 := by omega
  have hrz : ∀ ty, (Builtin.append_ #[22, 3] ty #[.slice (some ⟨g, 0, none⟩) i cap, .int .i64 ((cap : Int) + 1 - (i : Int))]).run Try.prog w = .ok (.slice (some ⟨H, 0, none⟩) (cap + 1) G) (w.drew.alloc (.cells ROW 21)) := fun ty => by
    have h := Lib.run_append_grow_zeros w 22 3 ty 21 i0 _ .i64 .i64 Try.underlying22 Try.underlying3 hi0 hz0 (some ⟨g, 0, none⟩) i cap _ hold (cap + 1 - i) (by omega) (by omega) (by omega) (by omega) (by rw [hzb]; omega) (by rw [hzb, hik]; exact growslice_fits hr (by omega))
    rw [hik, hG, hROW, hH] at h
    rw [hkk]
    exact h
  have hHs : (w.drew.alloc (.cells ROW 21)).heap.size = H + 1 := by rw [← hH]; simp
  have hblk : Has (w.drew.alloc (.cells ROW 21)) H (.cells ROW 21) := by have := Has.new w.drew (.cells ROW 21); rw [← hH]; exact this
  obtain ⟨W1, hW1⟩ : ∃ W1, W1 = w.drew.alloc (.cells ROW 21) := ⟨_, rfl⟩
  have hold1 : ∀ b j, b < H → W1.cell? ⟨b, j, none⟩ = w.cell? ⟨b, j, none⟩ := fun b j hb => by
    rw [hW1]
    exact ((Below.refl _ w.drew).alloc (Nat.le_refl _) (.cells ROW 21)).cell (p := ⟨b, j, none⟩) (by rw [← hH] at hb; exact hb)
  rw [← hW1] at hblk hHs hrz
  have hfz1 : ∀ j, W1.frozen? ⟨H, j, none⟩ = false := fun j => hblk.free j
  have hsm1 : ∀ j, j < G → (W1.cell? ⟨H, j, none⟩).isSome = true := fun j hj => by
    rw [cell_of_row W1 H j ROW 21 (0, 0) hblk, Array.getElem?_eq_getElem (by omega)]; rfl
  have hcpA : ∀ (W : World), (∀ y, W.cell? y = W1.cell? y) → (∀ y, W.frozen? y = W1.frozen? y) → ∀ ty dl dc, 1 ≤ dl → (Builtin.copy_ #[22, 22] ty #[.slice (some ⟨H, i, none⟩) dl dc, .slice (some ⟨vb, 0, none⟩) 1 1]).run Try.prog W = .ok (goInt 1) (W.setCells H i [.int .i32 x]) := fun W hWc hWf ty dl dc hdl =>
    run_copy_cells0 W ty H i dl dc vb 0 1 1 [.int .i32 x] (by simp; omega) (fun j u hj => by
      rw [hWc, hold1 _ _ (by omega)]
      match j, hj with
      | 0, hj => simp at hj; subst hj; exact hV.cell 0 rfl) (fun j hj => by rw [hWc]; exact hsm1 _ (by simp at hj; omega)) (fun j hj => by rw [hWf]; exact hfz1 _) (one32 x)
  obtain ⟨D, hD⟩ : ∃ D, (l.map (Value.int .i32)).drop i = D := ⟨_, rfl⟩
  have hDl : D.length = cap - i := by rw [← hD, List.length_drop, List.length_map, hn]
  have hDc : ∀ j u, D[j]? = some u → w.cell? ⟨g, i + j, none⟩ = some u := fun j u hj => by
    rw [← hD] at hj
    obtain ⟨h1, rfl⟩ := drop_map_at l i j u hj
    exact hc (i + j) (by omega)
  have hD1 : ∀ u ∈ D, u.oneCell' = true := fun u hu => by rw [← hD] at hu; exact one_map l u (List.mem_of_mem_drop hu)
  have hgH : g ≠ H := by omega
  have hcpB : ∀ (W : World), (∀ y, W.cell? y = (W1.setCells H i [.int .i32 x]).cell? y) → (∀ y, W.frozen? y = (W1.setCells H i [.int .i32 x]).frozen? y) → ∀ ty dl dc sl sc, dl = cap - i → sl = cap - i → (Builtin.copy_ #[22, 22] ty #[.slice (some ⟨H, i + 1, none⟩) dl dc, .slice (some ⟨g, i, none⟩) sl sc]).run Try.prog W = .ok (goInt D.length) (W.setCells H (i + 1) D) := fun W hWc hWf ty dl dc sl sc e1 e2 => by
    subst e1 e2
    exact run_copy_cells0 W ty H (i + 1) (cap - i) dc g i (cap - i) sc D (by rw [hDl]; omega) (fun j u hj => by
      rw [hWc, World.cell?_setCells_out H _ _ _ _ (fun h _ => absurd h hgH), hold1 _ _ (by omega)]
      exact hDc j u hj) (fun j hj => by
      rw [hWc]
      exact isSome_setCells H _ _ W1 (fun t ht => hsm1 _ (by simp at ht; omega)) _ (hsm1 _ (by omega))) (fun j hj => by rw [hWf, World.frozen?_setCells]; exact hfz1 _) hD1
  have HFin : Hid (∀ W2 : World, W2 = (((w.alloc (.cells ROW 21)).drew.setCells H i [.int .i32 x]).drew).setCells H (i + 1) D → Own W2 B (.slice (some ⟨H, 0, none⟩) (cap + 1) G) (P.ins l i x) ∧ w.grownBy W2 (some g)) := Lib.hid (fun W2 hW2 => by
    subst hW2
    have hb0 : (w.alloc (.cells ROW 21)).drew.heap[H]? = some (.cells ROW 21 (0, 0)) := by have := Has.new w (.cells ROW 21); rw [← hH]; exact this
    obtain ⟨c1, h1, h2⟩ := setCells_block H 21 [.int .i32 x] i _ ROW hb0
    obtain ⟨c2, h3, h4⟩ := setCells_block H 21 D (i + 1) (((w.alloc (.cells ROW 21)).drew.setCells H i [.int .i32 x]).drew) c1 h1
    have hgb : w.grownBy (w.alloc (.cells ROW 21)).drew (some g) := ⟨rfl, rfl, rfl, by simp, fun k hk _ => Below.heap_alloc w (.cells ROW 21) k hk⟩
    refine ⟨?_, ?_⟩
    · have hlen : (P.ins l i x).length = cap + 1 := by rw [P.ins_len, hn]
      have hsm2 : ∀ j, j < G → ((w.alloc (.cells ROW 21)).drew.cell? ⟨H, j, none⟩).isSome = true := fun j hj => by
        rw [cell_of_row _ H j ROW 21 (0, 0) hb0, Array.getElem?_eq_getElem (by omega)]; rfl
      have := own_of_cells (l := P.ins l i x) (cap := G) (B := B) (g := H) (by omega) h3 (by omega) hGm (by omega) (fun j hj => by
        rw [hlen] at hj
        rw [ins_at l i x (by omega) j]
        by_cases j2 : i < j
        · rw [if_neg (by omega), if_neg (by omega)]
          have hj3 : j - (i + 1) < D.length := by omega
          have := World.cell?_setCells_in H D (i + 1) (((w.alloc (.cells ROW 21)).drew.setCells H i [.int .i32 x]).drew) (fun k hk => isSome_setCells H _ _ _ (fun t ht => hsm2 _ (by simp at ht; omega)) _ (hsm2 _ (by omega))) (j - (i + 1)) hj3
          rw [show i + 1 + (j - (i + 1)) = j by omega] at this
          rw [this]
          have hg2 := hDc (j - (i + 1)) _ (List.getElem?_eq_getElem hj3)
          have hg3 := hc (i + (j - (i + 1))) (by omega)
          rw [hg3] at hg2
          rw [show i + (j - (i + 1)) = j - 1 by omega] at hg2
          exact hg2.symm
        · rw [World.cell?_setCells_out H _ _ _ _ (fun _ _ => by left; dsimp only; omega), cell_drew]
          by_cases j1 : j = i
          · subst j1
            rw [if_neg (by omega), if_pos rfl]
            have := World.cell?_setCells_in H [.int .i32 x] j (w.alloc (.cells ROW 21)).drew (fun k hk => hsm2 _ (by simp at hk; omega)) 0 (by simp)
            simpa using this
          · rw [if_pos (by omega), World.cell?_setCells_out H _ _ _ _ (fun _ _ => by left; dsimp only; omega), cell_of_row _ H j ROW 21 (0, 0) hb0]
            exact hRc j (by omega))
      rw [hlen] at this
      exact this
    · have g1 := grown_setCells hgb (g := H) (.inr (by omega)) i [.int .i32 x]
      have g2 : w.grownBy (((w.alloc (.cells ROW 21)).drew.setCells H i [.int .i32 x]).drew) (some g) := ⟨g1.os, g1.tape, g1.output, g1.size, g1.block⟩
      exact grown_setCells g2 (.inr (by omega)) _ _)
  have HA := Lib.hid hcpA
  have HBb := Lib.hid hcpB
  have HRZ := Lib.hid hrz
  have HWx := Lib.hid hW1
  have hz2 : ¬ ((i : Int) = (cap : Int)) := by omega
  have hb2 : ¬ (G = i + 1) := by omega
  have hb4 : ¬ (G = i) := by omega
  have hb5 : ¬ (cap = i) := by omega
  have hw1 : IntKind.i64.wrap ((i : Int) + 1) = (i : Int) + 1 := IntWalk.i64_in _ (by omega)
  have hw0 : (0 : Int) ≤ (i : Int) + 1 := by omega
  have htn : ((i : Int) + 1).toNat = i + 1 := by omega
  have hin : i ≤ cap := by omega
  have hb3 : (i : Int) ≤ (cap : Int) := by omega
  have hG63 : G ≤ 9223372036854775807 := by unfold maxLen at hGm; omega
  clear hW1 hH hcpA hcpB hrz hsm1 hfz1 hold1 hblk hHs hD1 hDc hDl hold hcT hRc hRs hROW hc hg hs hO hroom hn hm hG hik hkk hz0 hzs hzb hi0 hGm hD
  go_enter Try.func34, Try.ntmps34
  go_wp2_with (first
    | (refine Lib.wpList_append_run _ (by rfl) (.tmp 34) (.tmp 39) 22 3 (by rfl) (.slice (some ⟨g, 0, none⟩) i cap) (.int .i64 ((cap : Int) + 1 - (i : Int))) (by rfl) (by rfl) _ _ (HRZ.out _) ?_)
    | (refine wpList_copy_runI _ (by rfl) (.tmp 43) (.tmp 44) 22 22 (by rfl) (.slice (some ⟨H, i, none⟩) (cap + 1 - i) (G - i)) (.slice (some ⟨vb, 0, none⟩) 1 1) (by rfl) (by rfl) (HA.out _ (fun _ => rfl) (fun _ => rfl) _ (cap + 1 - i) (G - i) (by omega)) ?_))
  go_region_law (refine step_copy_runI rfl _ _ 22 22 rfl (.slice (some ⟨H, i + 1, none⟩) (cap - i) (G - (i + 1))) (.slice (some ⟨g, i, none⟩) (cap - i) (cap - i)) (by simp [Act.eval, Act.put]) (by simp [Act.eval, Act.put]) (HBb.out ((W1.setCells H i [.int .i32 x]).drew) (fun _ => rfl) (fun _ => rfl) _ _ _ _ _ rfl rfl) ?_)
  go_wp2
  go_ret
  exact ⟨_, rfl, HFin.out _ (by rw [HWx.out]; rfl)⟩
theorem insert_is (B : Nat) (v : Value) (l : List Int) (i : Nat) (x : Int) (vb : Nat) (w : World) (hO : Own w B v l) (hV : Has w vb (.cells #[.int .i32 x] 21)) (hne : some vb ≠ v.ownBlock) (hBw : B ≤ w.heap.size) (hl : l.length ≤ 1048576) (hi : i ≤ l.length) :
    Calls Try.prog 34 #[v, .int .i64 i, .slice (some ⟨vb, 0, none⟩) 1 1] w (InsPost B v (P.ins l i x) w) := by
  by_cases h : i = l.length
  · subst h; exact insert_end B v l x vb w hO hV hl hBw
  · obtain ⟨p, cap, e, _⟩ := hO.form
    by_cases hc : l.length + 1 ≤ cap
    · exact insert_room B v l i x vb w hO hV hne hl (by omega) (fun p' n' c' h' => by rw [e] at h'; simp only [Value.slice.injEq] at h'; omega)
    · exact insert_grow B v l i x vb w hO hV hBw hl (by omega) (fun p' n' c' h' => by rw [e] at h'; simp only [Value.slice.injEq] at h'; omega)
end Go.Proofs.Ythdodmbopchfdaa
