import Derived.Test.YtempmmkdppelaaaGreatDoorD2M
import Derived.Deep.RegionLaw
import Derived.Laws.NewBlocks
/-
  csp's Check.
-/
namespace Go.Proofs.YtempmmkdppelaaaGreatDoor
open Go.RowKit
theorem Dirs.take {w : World} {p : Option Addr} {n cap : Nat} {l : List Dir} (h : Dirs w (.slice p n cap) l) (k : Nat) (hk : k ≤ l.length) : Dirs w (.slice p k cap) (l.take k) := by
  obtain ⟨p', cap', hp, hl, hc⟩ := h
  simp only [Value.slice.injEq] at hp
  obtain ⟨rfl, -, rfl⟩ := hp
  refine ⟨p, cap, by rw [List.length_take_of_le hk], by rw [List.length_take_of_le hk]; exact Nat.le_trans hk hl, fun i x hi => ?_⟩
  have hik : i < k := by have := (List.getElem?_eq_some_iff.1 hi).1; rw [List.length_take_of_le hk] at this; exact this
  rw [List.getElem?_take, if_pos hik] at hi
  exact hc i x hi
/-- the directive at j is right, and none ahead has its name -/
def Good (l : List Dir) (j : Nat) : Prop := ∀ x, l[j]? = some x → rightD x = true ∧ (l.take j).any (isD x.1) = false
/-- the directives of a policy are right -/
def okP (l : List Dir) : Prop := l.length ≤ 64 ∧ ∀ j, Good l j
/-- the texts are short enough for the walks -/
def Small (l : List Dir) : Prop := ∀ x ∈ l, x.1.size < 4294967281 ∧ x.2.length ≤ 4294967296 ∧ ∀ v ∈ x.2, v.size < 4294967281
set_option maxHeartbeats 4000000 in
set_option maxRecDepth 100000 in
theorem check_is (v : Value) (l : List Dir) (rep : Bool) (r : Int) (hr : (okP l ∧ r = 0) ∨ (¬ okP l ∧ r = 20)) (hm : l.length ≤ 4294967296) (hz : Small l) (w : World) (hv : Dirs w v l) :
    Calls Tryz.prog 21 #[.agg #[v, .bool rep]] w fun e w' => e = .returned (.int .i64 r) ∧ Below w.heap.size w w' := by
  have hv' := hv
  obtain ⟨p, cap, rfl, hcap, hA⟩ := hv
  obtain ⟨n, hn⟩ : ∃ n, l.length = n := ⟨_, rfl⟩
  have HN := Lib.hid hn
  have HR := Lib.hid hr
  have HZ := Lib.hid hz
  have hB0 := bnew w (.cells #[.slice p l.length cap, .bool rep] 25)
  have h0 : (w.alloc (.cells #[.slice p l.length cap, .bool rep] 25)).cell? ⟨w.heap.size, 0, none⟩ = some (.slice p l.length cap) := cell_of_row _ _ 0 _ _ _ (heap_alloc_new _ _)
  have hlt0 : w.heap.size < (w.alloc (.cells #[.slice p l.length cap, .bool rep] 25)).heap.size := by simp
  obtain ⟨W, hW⟩ : ∃ W, w.alloc (.cells #[.slice p l.length cap, .bool rep] 25) = W := ⟨_, rfl⟩
  have HVW := Lib.hid (hW ▸ hv'.to hB0)
  have HBW := Lib.hid (show Below w.heap.size w W from hW ▸ hB0)
  have h0W : W.cell? ⟨w.heap.size, 0, none⟩ = some (.slice p n cap) := by rw [← hW, ← hn]; exact h0
  have hltW : w.heap.size < W.heap.size := by rw [← hW]; exact hlt0
  rw [hn] at hm hW HVW hcap ⊢
  clear hr hz hA hv' hB0 h0 hlt0 hn
  have HW0 := Lib.hid h0W
  by_cases h64 : n ≤ 64
  · have j1 : ¬ (64 : Int) < (n : Int) := by omega
    go_enter Tryz.func21, Tryz.ntmps21
    go_wp2_with fail
    go_loopw [12] (fun i wr => ∃ k : Nat, k ≤ n ∧ i = .int .i64 k ∧ Hid (∀ j, j < k → Good l j) ∧ Hid (Below W.heap.size W wr)) (fun i _ => n - (intOf i).toNat)
    case atStart => exact ⟨0, by omega, rfl, Lib.hid (fun j hj => by omega), Lib.hid (Below.refl _ _)⟩
    case round =>
      obtain ⟨k, hk, rfl, HE, HB⟩ := hrel
      by_cases hlt : k < n
      · have hkl : k < l.length := by rw [HN.out]; exact hlt
        obtain ⟨p', cap', hp', _, hcc⟩ := HVW.out.to HB.out
        simp only [Value.slice.injEq] at hp'
        obtain ⟨rfl, -, rfl⟩ := hp'
        obtain ⟨g, o, vs, rfl, hg, hx, hy, hz⟩ := hcc k l[k] (getT hkl)
        have i1 : (k : Int) < (n : Int) := by omega
        have i2 : k ≤ cap := by omega
        have i2' : ¬ cap < k := by omega
        have i3 : (k : Int) ≤ (cap : Int) := by omega
        have hb1 := (HB.out.cell (p := ⟨w.heap.size, 0, none⟩) hltW).trans HW0.out
        have HZX := Lib.hid (HZ.out l[k] (List.getElem_mem hkl))
        have HS0 := Lib.hid (Lib.hid hz)
        obtain ⟨q2, c2, hvs, _⟩ := hz
        have HGD := Lib.hid (show rightD l[k] = true → (l.take k).any (isD l[k].1) = false → ∀ j, j < k + 1 → Good l j from fun e1 e2 j hj => by
          by_cases hjk : j = k
          · subst hjk; intro x hx; rw [getT hkl] at hx; cases hx; exact ⟨e1, e2⟩
          · exact HE.out j (by omega))
        have HBD := Lib.hid (show (rightD l[k] = false ∨ (l.take k).any (isD l[k].1) = true) → r = 20 from fun e => by
          rcases HR.out with ⟨⟨_, h⟩, _⟩ | ⟨_, h⟩
          · have := h k l[k] (getT hkl)
            rcases e with e | e
            · rw [this.1] at e; cases e
            · rw [this.2] at e; cases e
          · exact h)
        have HTK := Lib.hid (fun wy (hy : Below wr.heap.size wr wy) => Dirs.take ((HVW.out.to HB.out).to hy) k (Nat.le_of_lt hkl))
        have HLT := Lib.hid (show (l.take k).length ≤ 4294967296 by rw [List.length_take]; omega)
        generalize l.take k = lt at *
        generalize l[k] = f at *
        obtain ⟨a, b⟩ := f
        subst hvs
        obtain ⟨X, hX⟩ : ∃ X, wr.alloc (.cells #[.string a, .slice q2 b.length c2] 35) = X := ⟨_, rfl⟩
        have HBX := Lib.hid (show Below wr.heap.size wr X from hX ▸ bnew wr _)
        have hrX : wr.heap.size < X.heap.size := by rw [← hX]; simp
        have HX0 := Lib.hid (show X.cell? ⟨wr.heap.size, 0, none⟩ = some (.string a) from hX ▸ cell_of_row _ _ 0 _ _ _ (heap_alloc_new _ _))
        have HX1 := Lib.hid (show X.cell? ⟨wr.heap.size, 1, none⟩ = some (.slice q2 b.length c2) from hX ▸ cell_of_row _ _ 1 _ _ _ (heap_alloc_new _ _))
        have hwr := HB.out.size
        have HXW := Lib.hid (show X.cell? ⟨w.heap.size, 0, none⟩ = some (.slice (some ⟨g, o, none⟩) n cap) from (HBX.out.cell (p := ⟨w.heap.size, 0, none⟩) (show w.heap.size < wr.heap.size by omega)).trans hb1)
        have FIN := Lib.hid (show ∀ w2, Below X.heap.size X w2 → Below W.heap.size W w2 from fun w2 h => HB.out.trans ((HBX.out.trans (h.mono HBX.out.size)).mono HB.out.size))
        have hm0 : Tryz.prog.follows .mixedOrders = true := by kernel_rfl
        have hx3 : wr.cell? ⟨g, o + k * 2, none⟩ = some (.string a) := hx
        have hy3 : wr.cell? ⟨g, o + k * 2 + 1, none⟩ = some (.slice q2 b.length c2) := hy
        clear hx hy hcc
        cases hrd : rightD (a, b) with
        | false =>
          have HRC := Lib.hid (fun (W' : World) (hb : Below X.heap.size X W') => right_is a (.slice q2 b.length c2) b false hrd HZX.out.1 (by have := HZX.out.2.1; simp only at this; omega) HZX.out.2.2 W' ((HS0.out.out.to HBX.out).to hb))
          have HBD2 := Lib.hid (HBD.out (.inl hrd))
          clear hrd HGD HBD
          have k0 : ∀ p : Later X, p.v.cell? ⟨wr.heap.size, 0, none⟩ = some (.string a) := fun p => p.c HX0.out hrX
          have k1 : ∀ p : Later X, p.v.cell? ⟨wr.heap.size, 1, none⟩ = some (.slice q2 b.length c2) := fun p => p.c HX1.out hrX
          go_wp2_with fail
          refine wp_region_quiet_later (by assumption) (by kernel_rfl) ?_
          repeat (go_big_quiet_step ((go_at_call 47; exact Calls.later_of (HRC.out _ (Later.h _)))))
          refine wpQuiet_nil ?_
          rintro w2 ⟨⟨_, h2⟩, rfl⟩
          go_wp2
          go_ret
          exact ⟨ret_int HBD2.out.symm, HBW.out.trans ((FIN.out _ h2).mono HBW.out.size)⟩
        | true =>
          have HRC := Lib.hid (fun (W' : World) (hb : Below X.heap.size X W') => right_is a (.slice q2 b.length c2) b true hrd HZX.out.1 (by have := HZX.out.2.1; simp only at this; omega) HZX.out.2.2 W' ((HS0.out.out.to HBX.out).to hb))
          cases han : lt.any (isD a) with
          | true =>
            have HBD2 := Lib.hid (HBD.out (.inr han))
            have HCN := Lib.hid (fun (w1 : World) (h : Below X.heap.size X w1) => containsNamed a w1.heap.size (.slice (some ⟨g, o, none⟩) k cap) lt true han (by have := HLT.out; omega) (w1.alloc (.cells #[.string a] 9)) (HTK.out _ ((HBX.out.trans (h.mono HBX.out.size)).trans ((bnew w1 _).mono (by have := HBX.out.size; have := h.size; omega)))) (Boxed.new w1 9 _))
            have HD := Lib.hid (show Below X.heap.size X X.drew from (Below.refl _ _).drew)
            clear hrd HBD han
            have HGD2 := HGD
            clear HGD
            have y0 := HX0.out
            have y1 := HX1.out
            have y2 := HXW.out
            go_wp2_with fail
            go_region_law (first
              | (go_simp; refine (HRC.out _ HD.out).mono ?_; rintro e w1 ⟨rfl, hb1'⟩; have HB1 := Lib.hid (HD.out.trans hb1'); have q0 := (HB1.out.cell (p := ⟨w.heap.size, 0, none⟩) (show w.heap.size < X.heap.size by omega)).trans HXW.out; have q1 := (HB1.out.cell (p := ⟨wr.heap.size, 0, none⟩) hrX).trans HX0.out; have q2 := (HB1.out.cell (p := ⟨wr.heap.size, 1, none⟩) hrX).trans HX1.out; have hs1 := HB1.out.size; have hlw1 : w.heap.size < w1.heap.size := Nat.lt_of_lt_of_le (show w.heap.size < X.heap.size by omega) HB1.out.size; have q3 := (World.cell?_alloc_past (w := w1) (.cells #[.string a] 9) w.heap.size 0 hlw1).trans q0; clear hb1')
              | (go_simp; refine (mk_named a w1).mono ?_; rintro e w2 ⟨rfl, rfl⟩)
              | (go_simp; refine (HCN.out w1 HB1.out).mono ?_; rintro e w3 ⟨rfl, hb3⟩; have HB3 := Lib.hid (HB1.out.trans (((bnew w1 _).trans (hb3.mono (by simp))).mono hs1)); clear hb3))
            all_goals
              go_wp2
              go_ret
              exact ⟨ret_int HBD2.out.symm, HBW.out.trans ((FIN.out _ HB3.out).mono HBW.out.size)⟩
          | false =>
            have HGD3 := Lib.hid (HGD.out hrd han)
            have HCN := Lib.hid (fun (w1 : World) (h : Below X.heap.size X w1) => containsNamed a w1.heap.size (.slice (some ⟨g, o, none⟩) k cap) lt false han (by have := HLT.out; omega) (w1.alloc (.cells #[.string a] 9)) (HTK.out _ ((HBX.out.trans (h.mono HBX.out.size)).trans ((bnew w1 _).mono (by have := HBX.out.size; have := h.size; omega)))) (Boxed.new w1 9 _))
            have HD := Lib.hid (show Below X.heap.size X X.drew from (Below.refl _ _).drew)
            clear hrd HBD han
            have HGD2 := HGD
            clear HGD
            have y0 := HX0.out
            have y1 := HX1.out
            have y2 := HXW.out
            go_wp2_with fail
            go_region_law (first
              | (go_simp; refine (HRC.out _ HD.out).mono ?_; rintro e w1 ⟨rfl, hb1'⟩; have HB1 := Lib.hid (HD.out.trans hb1'); have q0 := (HB1.out.cell (p := ⟨w.heap.size, 0, none⟩) (show w.heap.size < X.heap.size by omega)).trans HXW.out; have q1 := (HB1.out.cell (p := ⟨wr.heap.size, 0, none⟩) hrX).trans HX0.out; have q2 := (HB1.out.cell (p := ⟨wr.heap.size, 1, none⟩) hrX).trans HX1.out; have hs1 := HB1.out.size; have hlw1 : w.heap.size < w1.heap.size := Nat.lt_of_lt_of_le (show w.heap.size < X.heap.size by omega) HB1.out.size; have q3 := (World.cell?_alloc_past (w := w1) (.cells #[.string a] 9) w.heap.size 0 hlw1).trans q0; clear hb1')
              | (go_simp; refine (mk_named a w1).mono ?_; rintro e w2 ⟨rfl, rfl⟩)
              | (go_simp; refine (HCN.out w1 HB1.out).mono ?_; rintro e w3 ⟨rfl, hb3⟩; have HB3 := Lib.hid (HB1.out.trans (((bnew w1 _).trans (hb3.mono (by simp))).mono hs1)); clear hb3))
            all_goals
              go_wp2
              go_roundw
              case rel => exact ⟨k + 1, by omega, by go_num, HGD3, Lib.hid (FIN.out _ HB3.out)⟩
              case measure => simp [intOf]; omega
      · have HOK := Lib.hid (show r = 0 from by
          rcases HR.out with ⟨_, h⟩ | ⟨h, _⟩
          · exact h
          · refine absurd ⟨by rw [HN.out]; exact h64, fun j => ?_⟩ h
            by_cases hj : j < k
            · exact HE.out j hj
            · intro x hx
              have := (List.getElem?_eq_some_iff.1 hx).1
              rw [HN.out] at this; omega)
        go_wp2
        go_ret
        exact ⟨ret_int HOK.out.symm, HBW.out.trans (HB.out.mono HBW.out.size)⟩
  · have j1 : (64 : Int) < (n : Int) := by omega
    have HOK := Lib.hid (show r = 20 from by
      rcases HR.out with ⟨⟨h, _⟩, _⟩ | ⟨_, h⟩
      · rw [HN.out] at h; omega
      · exact h)
    go_enter Tryz.func21, Tryz.ntmps21
    go_wp2
    go_ret
    exact ⟨ret_int HOK.out.symm, HBW.out⟩
end Go.Proofs.YtempmmkdppelaaaGreatDoor
/-
  csp's Find.
-/
namespace Go.Proofs.YtempmmkdppelaaaGreatDoor
open Go.RowKit
theorem results_cell_tmp {P : Program} {fn : Func} {p t2 : Tmp} {ty : TypeId} (h : fn.results = #[.cell p ty, .tmp t2]) (tmps : Array Value) (w : World) (g : Nat) (t : TypeId) (cs : Array Value) (fr : Nat × Nat) (d : TypeDesc)
    (hp : tmps.getD p undef = .pointer (some ⟨g, 0, none⟩)) (hg : w.heap[g]? = some (.cells cs t fr))
    (hu : P.underlying ty = some d) (hd : (match d with | .struct _ | .array _ _ => true | _ => false) = true) (hi : (P.info? ty).map (·.size) = some cs.size) :
    (results fn tmps).run P w = .ok (.tuple #[.agg cs, tmps.getD t2 undef]) w := by
  have hp' : tmps[p]?.getD undef = .pointer (some ⟨g, 0, none⟩) := by simpa using hp
  simp [results, h, hp', asAddr, run_loadVar_row w g t ty cs fr d hg hu hd hi]
theorem info35 : (Tryz.prog.info? 35).map (·.size) = some 2 := by kernel_rfl
theorem find_idx (nm : ByteArray) : ∀ l : List Dir, (idxI (isD nm) l = -1 ∧ l.find? (isD nm) = none) ∨ ∃ (k : Nat) (h : k < l.length), idxI (isD nm) l = k ∧ l.find? (isD nm) = some l[k]
  | [] => .inl ⟨rfl, rfl⟩
  | x :: l => by
    cases hx : isD nm x with
    | true => exact .inr ⟨0, by simp, by unfold idxI; rw [if_pos hx]; rfl, by rw [List.find?_cons, hx]; rfl⟩
    | false =>
      rcases find_idx nm l with ⟨h1, h2⟩ | ⟨k, hk, h1, h2⟩
      · exact .inl ⟨by unfold idxI; rw [if_neg (by rw [hx]; simp), if_pos h1], by rw [List.find?_cons, hx]; exact h2⟩
      · refine .inr ⟨k + 1, by simpa using hk, ?_, by rw [List.find?_cons, hx]; simpa using h2⟩
        unfold idxI
        rw [if_neg (by rw [hx]; simp), if_neg (by omega), h1]; simp
/-- the first directive of a name -/
def findD (nm : ByteArray) (l : List Dir) : List ByteArray × Bool := match l.find? (isD nm) with | some d => (d.2, true) | none => ([], false)
set_option maxHeartbeats 4000000 in
set_option maxRecDepth 100000 in
theorem find_is (v : Value) (l : List Dir) (rep : Bool) (nm : ByteArray) (hnm : nm.size ≤ 281474976710656) (hm : l.length ≤ 4294967296) (hz : Small l) (w : World) (hv : Dirs w v l) :
    Calls Tryz.prog 16 #[.agg #[v, .bool rep], .string nm] w fun e w' => (∃ q c, e = .returned (.tuple #[.agg #[.string (if (findD nm l).2 then nm else ⟨#[]⟩), .slice q (findD nm l).1.length c], .bool (findD nm l).2]) ∧ OwnS w' w.heap.size (.slice q (findD nm l).1.length c) (findD nm l).1) ∧ Below w.heap.size w w' := by
  have hv' := hv
  obtain ⟨p, cap, rfl, hcap, hA⟩ := hv
  obtain ⟨n, hn⟩ : ∃ n, l.length = n := ⟨_, rfl⟩
  have HN := Lib.hid hn
  have HZ := Lib.hid hz
  obtain ⟨X, hX⟩ : ∃ X, (w.alloc (.cells #[.slice p n cap, .bool rep] 25)).alloc (.cells #[.string ⟨#[]⟩, .slice none 0 0] 35) = X := ⟨_, rfl⟩
  have hB0 : Below w.heap.size w X := hX ▸ (bnew w _).alloc (by simp) _
  have hsX : X.heap.size = w.heap.size + 2 := by rw [← hX]; simp
  have HB0 := Lib.hid hB0
  have HVX := Lib.hid (hv'.to hB0)
  have HX0 := Lib.hid (show X.cell? ⟨w.heap.size, 0, none⟩ = some (.slice p n cap) from hX ▸ (World.cell?_alloc_past (w := w.alloc (.cells #[.slice p n cap, .bool rep] 25)) _ w.heap.size 0 (by simp)).trans (cell_of_row _ _ 0 _ _ _ (heap_alloc_new w _)))
  have hXb : X.heap[w.heap.size + 1]? = some (.cells #[.string ⟨#[]⟩, .slice none 0 0] 35 (0, 0)) := by
    have := heap_alloc_new (w.alloc (.cells #[.slice p n cap, .bool rep] 25)) (.cells #[.string ⟨#[]⟩, .slice none 0 0] 35)
    rw [hX] at this; simpa using this
  have HXB := Lib.hid (show Has X (w.heap.size + 1) (.cells #[.string ⟨#[]⟩, .slice none 0 0] 35) from hXb)
  have HSX := Lib.hid hsX
  have hsX' : w.heap.size + 2 ≤ X.heap.size := by omega
  rw [hn] at hm hcap HVX ⊢
  clear hv' hA hz hB0 hXb hsX
  have HIX := Lib.hid (fun (r : Int) (hr : idxI (isD nm) l = r) => (indexNamed nm X.heap.size (.slice p n cap) l r hr (by rw [HN.out]; omega) (X.alloc (.cells #[.string nm] 9)).drew ((HVX.out.to (bnew X _)).to (Below.refl _ _).drew) (Boxed.new X 9 _)).mono fun e w' h => (⟨h.1, ((bnew X (.cells #[.string nm] 9)).drew).trans (h.2.mono (by simp))⟩ : e = .returned (.int .i64 r) ∧ Below X.heap.size X w'))
  have HD := Lib.hid (show Below X.heap.size X X.drew from (Below.refl _ _).drew)
  have y0 := HX0.out
  have y1 : (X.alloc (.cells #[.string nm] 9)).cell? ⟨w.heap.size, 0, none⟩ = some (.slice p n cap) := (World.cell?_alloc_past (w := X) _ w.heap.size 0 (by omega)).trans y0
  rcases find_idx nm l with ⟨hix, hf⟩ | ⟨k, hk, hix, hf⟩
  · have HF := Lib.hid (show findD nm l = ([], false) by unfold findD; rw [hf])
    have HI2 := Lib.hid (HIX.out _ hix)
    rw [HF.out]
    clear hix hf HIX
    go_enter Tryz.func16, Tryz.ntmps16
    go_wp2_with fail
    go_region_law (first
      | (go_simp; refine (mk_named nm _).mono ?_; rintro e w2 ⟨rfl, rfl⟩)
      | (go_simp; refine HI2.out.mono ?_; rintro e w3 ⟨rfl, hb3⟩; have HB3 := Lib.hid hb3; clear hb3))
    all_goals
      have hbk := HXB.out.to HB3.out
      have z0 := hbk.cell 0 rfl
      have z1 := hbk.cell 1 rfl
      have f0 := hbk.free 0
      have f1 := hbk.free 1
      have HBK := Lib.hid hbk
      clear hbk
      have HBF := Lib.hid (show Below w.heap.size w ((w3.setCell ⟨w.heap.size + 1, 0, none⟩ (.string ⟨#[]⟩)).setCell ⟨w.heap.size + 1, 1, none⟩ (.slice none 0 0)) from ((HB0.out.trans (HB3.out.mono (by omega))).setCell (p := ⟨w.heap.size + 1, 0, none⟩) (Nat.le_succ _) _).setCell (p := ⟨w.heap.size + 1, 1, none⟩) (Nat.le_succ _) _)
      have HHF := Lib.hid ((HBK.out.set 0 (.string ⟨#[]⟩)).set 1 (.slice none 0 0))
      go_wp2
      exact bodyPost_ret (results_cell_tmp rfl _ _ (w.heap.size + 1) 35 _ (0, 0) _ rfl HHF.out Tryz.underlying35 rfl info35) rfl ⟨⟨none, 0, rfl, World.ownsRow_nil _ _ _ _⟩, HBF.out⟩
  · obtain ⟨k', hk'⟩ : ∃ k', l[k] = k' := ⟨_, rfl⟩
    obtain ⟨p', cap', hp', _, hcc⟩ := HVX.out
    simp only [Value.slice.injEq] at hp'
    obtain ⟨rfl, -, rfl⟩ := hp'
    obtain ⟨g, o, vs, rfl, hg, hx, hy, hzv⟩ := hcc k l[k] (getT hk)
    have HF := Lib.hid (show findD nm l = (l[k].2, true) by unfold findD; rw [hf])
    have HZK := Lib.hid (HZ.out _ (List.getElem_mem hk))
    have HI2 := Lib.hid (HIX.out _ hix)
    have i1 : (k : Int) < (n : Int) := by have := HN.out; omega
    have HTX := Lib.hid (fun (w4 : World) (h : Below X.heap.size X w4) => texts_is vs l[k].2 (by have := HZK.out.2.1; omega) (fun x hx => by have := HZK.out.2.2 x hx; omega) w4 (hzv.to h))
    rw [HF.out]
    have HCN := Lib.hid (fun w4 => clone_is nm w4 hnm)
    have HY := Lib.hid hy
    obtain ⟨q2, c2, hvs, _⟩ := hzv
    have hnk : ¬ (k : Int) < 0 := by omega
    clear hix hf HIX hcc hx hk'
    generalize l[k] = f at *
    obtain ⟨a, b⟩ := f
    dsimp only at *
    subst hvs
    go_enter Tryz.func16, Tryz.ntmps16
    go_wp2_with fail
    go_region_law (first
      | (go_simp; refine (mk_named nm _).mono ?_; rintro e w2 ⟨rfl, rfl⟩)
      | (go_simp; refine HI2.out.mono ?_; rintro e w3 ⟨rfl, hb3⟩; have HB3 := Lib.hid hb3; clear hb3))
    all_goals
      have hbk := HXB.out.to HB3.out
      have HBK := Lib.hid hbk
      have x0 := (HB3.out.cell (p := ⟨w.heap.size, 0, none⟩) (show w.heap.size < X.heap.size by omega)).trans HX0.out
      have x1 := (HB3.out.cell (p := ⟨g, o + k * 2 + 1, none⟩) hg).trans HY.out
      have hs3 := HB3.out.size
      clear hbk
      go_wp2_with fail
      have HD3 := Lib.hid (show Below X.heap.size X w3.drew from HB3.out.drew)
      go_region_law (first
        | (go_simp; refine (HCN.out _).mono ?_; rintro e w4 ⟨rfl, hb4⟩; have HB4 := Lib.hid (show Below X.heap.size X w4 from HD3.out.trans (hb4.mono HD3.out.size)); have x2 := (HB4.out.cell (p := ⟨w.heap.size, 0, none⟩) (show w.heap.size < X.heap.size by omega)).trans HX0.out; have x3 := (HB4.out.cell (p := ⟨g, o + k * 2 + 1, none⟩) hg).trans HY.out; clear hb4)
        | (go_simp; refine (HTX.out _ HB4.out).mono ?_; rintro e w5 ⟨⟨q5, c5, rfl, ho5⟩, hb5⟩; have HB5 := Lib.hid (show Below X.heap.size X w5 from HB4.out.trans (hb5.mono HB4.out.size)); have HO5 := Lib.hid (own_base ho5 (show X.heap.size ≤ _ from HB4.out.size)); have HK5 := Lib.hid (HXB.out.to HB5.out); have z0 := HK5.out.cell 0 rfl; have z1 := HK5.out.cell 1 rfl; have f0 := HK5.out.free 0; have f1 := HK5.out.free 1; clear ho5 hb5))
      all_goals
        have HBF := Lib.hid (show Below w.heap.size w ((w5.setCell ⟨w.heap.size + 1, 0, none⟩ (.string nm)).setCell ⟨w.heap.size + 1, 1, none⟩ (.slice q5 b.length c5)) from ((HB0.out.trans (HB5.out.mono (by omega))).setCell (p := ⟨w.heap.size + 1, 0, none⟩) (Nat.le_succ _) _).setCell (p := ⟨w.heap.size + 1, 1, none⟩) (Nat.le_succ _) _)
        have HHF := Lib.hid ((HK5.out.set 0 (.string nm)).set 1 (.slice q5 b.length c5))
        have HOF := Lib.hid (show OwnS ((w5.setCell ⟨w.heap.size + 1, 0, none⟩ (.string nm)).setCell ⟨w.heap.size + 1, 1, none⟩ (.slice q5 b.length c5)) w.heap.size (.slice q5 b.length c5) b from by
          have hne : ∀ v : Value, v = .slice q5 b.length c5 → some (w.heap.size + 1) ≠ v.ownBlock := fun v hv e => by
            have := HO5.out.lt (w.heap.size + 1) (by rw [← hv]; exact e.symm)
            omega
          have a1 := HO5.out.kept (grownBy_set w5 (w.heap.size + 1) 0 (.string nm)) (.inr (fun e => hne _ rfl e.symm))
          have a2 := a1.kept (grownBy_set _ (w.heap.size + 1) 1 (.slice q5 b.length c5)) (.inr (fun e => hne _ rfl e.symm))
          exact own_base a2 (by omega))
        go_wp2
        exact bodyPost_ret (results_cell_tmp rfl _ _ (w.heap.size + 1) 35 _ (0, 0) _ rfl HHF.out Tryz.underlying35 rfl info35) rfl ⟨⟨q5, c5, rfl, HOF.out⟩, HBF.out⟩
end Go.Proofs.YtempmmkdppelaaaGreatDoor
