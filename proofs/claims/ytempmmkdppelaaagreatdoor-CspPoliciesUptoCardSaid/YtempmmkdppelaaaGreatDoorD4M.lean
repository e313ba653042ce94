/-
  csp's Check.
-/
import Derived.Test.YtempmmkdppelaaaGreatDoorD2M
import Derived.Deep.RegionLaw
import Derived.Laws.NewBlocks
namespace Go.Proofs.YtempmmkdppelaaaGreatDoor
open Go.RowKit
theorem Dirs.take {w : World} {p : Option Addr} {n cap : Nat} {l : List Dir} (h : Dirs w (.slice p n cap) l) (k : Nat) (hk : k ≤ l.length) : Dirs w (.slice p k cap) (l.take k) := by
  obtain ⟨p', cap', hp, hl, hc⟩ := h
  simp only [Value.slice.injEq] at hp
  obtain ⟨rfl, -, rfl⟩ := hp
  refine ⟨p, cap, by rw [List.length_take_of_le hk], by rw [List.length_take_of_le hk]; exact Nat.le_trans hk hl, fun i x hi => ?_⟩
  have hik : i < k := by have := (List.getElem?_eq_some_iff.1 hi).1; rw [List.length_take_of_le hk] at this; exact this
  rw [List.getElem?_take, if_pos hik] at hi
  exact hc i x hi
/-- the directive at j is right, and none ahead has its name -/
def Good (l : List Dir) (j : Nat) : Prop := ∀ x, l[j]? = some x → rightD x = true ∧ (l.take j).any (isD x.1) = false
/-- the directives of a policy are right -/
def okP (l : List Dir) : Prop := l.length ≤ 64 ∧ ∀ j, Good l j
/-- the texts are short enough for the walks -/
def Small (l : List Dir) : Prop := ∀ x ∈ l, x.1.size < 4294967281 ∧ x.2.length ≤ 4294967296 ∧ ∀ v ∈ x.2, v.size < 4294967281
set_option maxHeartbeats 4000000 in
set_option maxRecDepth 100000 in
theorem check_is (v : Value) (l : List Dir) (rep : Bool) (r : Int) (hr : (okP l ∧ r = 0) ∨ (¬ okP l ∧ r = 20)) (hm : l.length ≤ 4294967296) (hz : Small l) (w : World) (hv : Dirs w v l) :
    Calls Tryz.prog 21 #[.agg #[v, .bool rep]] w fun e w' => e = .returned (.int .i64 r) ∧ Below w.heap.size w w' := by
  have hv' := hv
  obtain ⟨p, cap, rfl, hcap, hA⟩ := hv
  obtain ⟨n, hn⟩ : ∃ n, l.length = n := ⟨_, rfl⟩
  have HN := Lib.hid hn
  have HR := Lib.hid hr
  have HZ := Lib.hid hz
  have hB0 := bnew w (.cells #[.slice p l.length cap, .bool rep] 25)
  have h0 : (w.alloc (.cells #[.slice p l.length cap, .bool rep] 25)).cell? ⟨w.heap.size, 0, none⟩ = some (.slice p l.length cap) := cell_of_row _ _ 0 _ _ _ (heap_alloc_new _ _)
  have hlt0 : w.heap.size < (w.alloc (.cells #[.slice p l.length cap, .bool rep] 25)).heap.size := by simp
  obtain ⟨W, hW⟩ : ∃ W, w.alloc (.cells #[.slice p l.length cap, .bool rep] 25) = W := ⟨_, rfl⟩
  have HVW := Lib.hid (hW ▸ hv'.to hB0)
  have HBW := Lib.hid (show Below w.heap.size w W from hW ▸ hB0)
  have h0W : W.cell? ⟨w.heap.size, 0, none⟩ = some (.slice p n cap) := by rw [← hW, ← hn]; exact h0
  have hltW : w.heap.size < W.heap.size := by rw [← hW]; exact hlt0
  rw [hn] at hm hW HVW hcap ⊢
  clear hr hz hA hv' hB0 h0 hlt0 hn
  have HW0 := Lib.hid h0W
  by_cases h64 : n ≤ 64
  · have j1 : ¬ (64 : Int) < (n : Int) := by omega
    go_enter Tryz.func21, Tryz.ntmps21
    go_wp2_with fail
    go_loopw [12] (fun i wr => ∃ k : Nat, k ≤ n ∧ i = .int .i64 k ∧ Hid (∀ j, j < k → Good l j) ∧ Hid (Below W.heap.size W wr)) (fun i _ => n - (intOf i).toNat)
    case atStart => exact ⟨0, by omega, rfl, Lib.hid (fun j hj => by omega), Lib.hid (Below.refl _ _)⟩
    case round =>
      obtain ⟨k, hk, rfl, HE, HB⟩ := hrel
      by_cases hlt : k < n
      · have hkl : k < l.length := by rw [HN.out]; exact hlt
        obtain ⟨p', cap', hp', _, hcc⟩ := HVW.out.to HB.out
        simp only [Value.slice.injEq] at hp'
        obtain ⟨rfl, -, rfl⟩ := hp'
        obtain ⟨g, o, vs, rfl, hg, hx, hy, hz⟩ := hcc k l[k] (getT hkl)
        have i1 : (k : Int) < (n : Int) := by omega
        have i2 : k ≤ cap := by omega
        have i2' : ¬ cap < k := by omega
        have i3 : (k : Int) ≤ (cap : Int) := by omega
        have hb1 := (HB.out.cell (p := ⟨w.heap.size, 0, none⟩) hltW).trans HW0.out
        have HZX := Lib.hid (HZ.out l[k] (List.getElem_mem hkl))
        have HS0 := Lib.hid (Lib.hid hz)
        obtain ⟨q2, c2, hvs, _⟩ := hz
        have HGD := Lib.hid (show rightD l[k] = true → (l.take k).any (isD l[k].1) = false → ∀ j, j < k + 1 → Good l j from fun e1 e2 j hj => by
          by_cases hjk : j = k
          · subst hjk; intro x hx; rw [getT hkl] at hx; cases hx; exact ⟨e1, e2⟩
          · exact HE.out j (by omega))
        have HBD := Lib.hid (show (rightD l[k] = false ∨ (l.take k).any (isD l[k].1) = true) → r = 20 from fun e => by
          rcases HR.out with ⟨⟨_, h⟩, _⟩ | ⟨_, h⟩
          · have := h k l[k] (getT hkl)
            rcases e with e | e
            · rw [this.1] at e; cases e
            · rw [this.2] at e; cases e
          · exact h)
        have HTK := Lib.hid (fun wy (hy : Below wr.heap.size wr wy) => Dirs.take ((HVW.out.to HB.out).to hy) k (Nat.le_of_lt hkl))
        have HLT := Lib.hid (show (l.take k).length ≤ 4294967296 by rw [List.length_take]; omega)
        generalize l.take k = lt at *
        generalize l[k] = f at *
        obtain ⟨a, b⟩ := f
        subst hvs
        obtain ⟨X, hX⟩ : ∃ X, wr.alloc (.cells #[.string a, .slice q2 b.length c2] 35) = X := ⟨_, rfl⟩
        have HBX := Lib.hid (show Below wr.heap.size wr X from hX ▸ bnew wr _)
        have hrX : wr.heap.size < X.heap.size := by rw [← hX]; simp
        have HX0 := Lib.hid (show X.cell? ⟨wr.heap.size, 0, none⟩ = some (.string a) from hX ▸ cell_of_row _ _ 0 _ _ _ (heap_alloc_new _ _))
        have HX1 := Lib.hid (show X.cell? ⟨wr.heap.size, 1, none⟩ = some (.slice q2 b.length c2) from hX ▸ cell_of_row _ _ 1 _ _ _ (heap_alloc_new _ _))
        have hwr := HB.out.size
        have HXW := Lib.hid (show X.cell? ⟨w.heap.size, 0, none⟩ = some (.slice (some ⟨g, o, none⟩) n cap) from (HBX.out.cell (p := ⟨w.heap.size, 0, none⟩) (show w.heap.size < wr.heap.size by omega)).trans hb1)
        have FIN := Lib.hid (show ∀ w2, Below X.heap.size X w2 → Below W.heap.size W w2 from fun w2 h => HB.out.trans ((HBX.out.trans (h.mono HBX.out.size)).mono HB.out.size))
        have hm0 : Tryz.prog.follows .mixedOrders = true := by kernel_rfl
        have hx3 : wr.cell? ⟨g, o + k * 2, none⟩ = some (.string a) := hx
        have hy3 : wr.cell? ⟨g, o + k * 2 + 1, none⟩ = some (.slice q2 b.length c2) := hy
        clear hx hy hcc
        cases hrd : rightD (a, b) with
        | false =>
          have HRC := Lib.hid (fun (W' : World) (hb : Below X.heap.size X W') => right_is a (.slice q2 b.length c2) b false hrd HZX.out.1 (by have := HZX.out.2.1; simp only at this; omega) HZX.out.2.2 W' ((HS0.out.out.to HBX.out).to hb))
          have HBD2 := Lib.hid (HBD.out (.inl hrd))
          clear hrd HGD HBD
          have k0 : ∀ p : Later X, p.v.cell? ⟨wr.heap.size, 0, none⟩ = some (.string a) := fun p => p.c HX0.out hrX
          have k1 : ∀ p : Later X, p.v.cell? ⟨wr.heap.size, 1, none⟩ = some (.slice q2 b.length c2) := fun p => p.c HX1.out hrX
          go_wp2_with fail
          refine wp_region_quiet_later (by assumption) (by kernel_rfl) ?_
          repeat (go_big_quiet_step ((go_at_call 47; exact Calls.later_of (HRC.out _ (Later.h _)))))
          refine wpQuiet_nil ?_
          rintro w2 ⟨⟨_, h2⟩, rfl⟩
          go_wp2
          go_ret
          exact ⟨ret_int HBD2.out.symm, HBW.out.trans ((FIN.out _ h2).mono HBW.out.size)⟩
        | true =>
          have HRC := Lib.hid (fun (W' : World) (hb : Below X.heap.size X W') => right_is a (.slice q2 b.length c2) b true hrd HZX.out.1 (by have := HZX.out.2.1; simp only at this; omega) HZX.out.2.2 W' ((HS0.out.out.to HBX.out).to hb))
          cases han : lt.any (isD a) with
          | true =>
            have HBD2 := Lib.hid (HBD.out (.inr han))
            have HCN := Lib.hid (fun (w1 : World) (h : Below X.heap.size X w1) => containsNamed a w1.heap.size (.slice (some ⟨g, o, none⟩) k cap) lt true han (by have := HLT.out; omega) (w1.alloc (.cells #[.string a] 9)) (HTK.out _ ((HBX.out.trans (h.mono HBX.out.size)).trans ((bnew w1 _).mono (by have := HBX.out.size; have := h.size; omega)))) (Boxed.new w1 9 _))
            have HD := Lib.hid (show Below X.heap.size X X.drew from (Below.refl _ _).drew)
            clear hrd HBD han
            have HGD2 := HGD
            clear HGD
            have y0 := HX0.out
            have y1 := HX1.out
            have y2 := HXW.out
            go_wp2_with fail
            go_region_law (first
              | (go_simp; refine (HRC.out _ HD.out).mono ?_; rintro e w1 ⟨rfl, hb1'⟩; have HB1 := Lib.hid (HD.out.trans hb1'); have q0 := (HB1.out.cell (p := ⟨w.heap.size, 0, none⟩) (show w.heap.size < X.heap.size by omega)).trans HXW.out; have q1 := (HB1.out.cell (p := ⟨wr.heap.size, 0, none⟩) hrX).trans HX0.out; have q2 := (HB1.out.cell (p := ⟨wr.heap.size, 1, none⟩) hrX).trans HX1.out; have hs1 := HB1.out.size; have hlw1 : w.heap.size < w1.heap.size := Nat.lt_of_lt_of_le (show w.heap.size < X.heap.size by omega) HB1.out.size; have q3 := (World.cell?_alloc_past (w := w1) (.cells #[.string a] 9) w.heap.size 0 hlw1).trans q0; clear hb1')
              | (go_simp; refine (mk_named a w1).mono ?_; rintro e w2 ⟨rfl, rfl⟩)
              | (go_simp; refine (HCN.out w1 HB1.out).mono ?_; rintro e w3 ⟨rfl, hb3⟩; have HB3 := Lib.hid (HB1.out.trans (((bnew w1 _).trans (hb3.mono (by simp))).mono hs1)); clear hb3))
            all_goals
              go_wp2
              go_ret
              exact ⟨ret_int HBD2.out.symm, HBW.out.trans ((FIN.out _ HB3.out).mono HBW.out.size)⟩
          | false =>
            have HGD3 := Lib.hid (HGD.out hrd han)
            have HCN := Lib.hid (fun (w1 : World) (h : Below X.heap.size X w1) => containsNamed a w1.heap.size (.slice (some ⟨g, o, none⟩) k cap) lt false han (by have := HLT.out; omega) (w1.alloc (.cells #[.string a] 9)) (HTK.out _ ((HBX.out.trans (h.mono HBX.out.size)).trans ((bnew w1 _).mono (by have := HBX.out.size; have := h.size; omega)))) (Boxed.new w1 9 _))
            have HD := Lib.hid (show Below X.heap.size X X.drew from (Below.refl _ _).drew)
            clear hrd HBD han
            have HGD2 := HGD
            clear HGD
            have y0 := HX0.out
            have y1 := HX1.out
            have y2 := HXW.out
            go_wp2_with fail
            go_region_law (first
              | (go_simp; refine (HRC.out _ HD.out).mono ?_; rintro e w1 ⟨rfl, hb1'⟩; have HB1 := Lib.hid (HD.out.trans hb1'); have q0 := (HB1.out.cell (p := ⟨w.heap.size, 0, none⟩) (show w.heap.size < X.heap.size by omega)).trans HXW.out; have q1 := (HB1.out.cell (p := ⟨wr.heap.size, 0, none⟩) hrX).trans HX0.out; have q2 := (HB1.out.cell (p := ⟨wr.heap.size, 1, none⟩) hrX).trans HX1.out; have hs1 := HB1.out.size; have hlw1 : w.heap.size < w1.heap.size := Nat.lt_of_lt_of_le (show w.heap.size < X.heap.size by omega) HB1.out.size; have q3 := (World.cell?_alloc_past (w := w1) (.cells #[.string a] 9) w.heap.size 0 hlw1).trans q0; clear hb1')
              | (go_simp; refine (mk_named a w1).mono ?_; rintro e w2 ⟨rfl, rfl⟩)
              | (go_simp; refine (HCN.out w1 HB1.out).mono ?_; rintro e w3 ⟨rfl, hb3⟩; have HB3 := Lib.hid (HB1.out.trans (((bnew w1 _).trans (hb3.mono (by simp))).mono hs1)); clear hb3))
            all_goals
              go_wp2
              go_roundw
              case rel => exact ⟨k + 1, by omega, by go_num, HGD3, Lib.hid (FIN.out _ HB3.out)⟩
              case measure => simp [intOf]; omega
      · have HOK := Lib.hid (show r = 0 from by
          rcases HR.out with ⟨_, h⟩ | ⟨h, _⟩
          · exact h
          · refine absurd ⟨by rw [HN.out]; exact h64, fun j => ?_⟩ h
            by_cases hj : j < k
            · exact HE.out j hj
            · intro x hx
              have := (List.getElem?_eq_some_iff.1 hx).1
              rw [HN.out] at this; omega)
        go_wp2
        go_ret
        exact ⟨ret_int HOK.out.symm, HBW.out.trans (HB.out.mono HBW.out.size)⟩
  · have j1 : (64 : Int) < (n : Int) := by omega
    have HOK := Lib.hid (show r = 20 from by
      rcases HR.out with ⟨⟨h, _⟩, _⟩ | ⟨_, h⟩
      · rw [HN.out] at h; omega
      · exact h)
    go_enter Tryz.func21, Tryz.ntmps21
    go_wp2
    go_ret
    exact ⟨ret_int HOK.out.symm, HBW.out⟩
end Go.Proofs.YtempmmkdppelaaaGreatDoor
