/-
  The document's Find.
-/
import Derived.Test.YtempmmkdppelaaaGreatDoorR3M
namespace Go.Proofs.YtempmmkdppelaaaGreatDoor
open Go.RowKit Go.Shelf
attribute [local go_sem] Oper.semAt_some
/-- what the operations of Find's region yield -/
def VF (k : Nat) (nm : ByteArray) (x22 : Value) (vs : List ByteArray) (D b5 : Nat) (i : Nat) (x : Value) (w : World) : Prop :=
  match i with
  | 0 => x = .pointer (some ⟨b5, 0, none⟩)
  | 1 => x = .string nm
  | 2 => ∃ B, x = .slice (some ⟨B, 0, none⟩) 0 0 ∧ OwnS w D x []
  | 3 => x = .pointer (some ⟨b5, 1, none⟩)
  | 4 => x = x22
  | 5 => ∃ q c, x = .slice q k c ∧ OwnS w D x vs
  | _ => ∃ q c, x = .agg #[.string nm, .slice q k c] ∧ OwnS w D (.slice q k c) vs
theorem VF_mono (k : Nat) (nm : ByteArray) (x22 : Value) (vs : List ByteArray) (D b5 : Nat) : ∀ (i : Nat) (x : Value) (w w' : World), VF k nm x22 vs D b5 i x w → Below w.heap.size w w' → VF k nm x22 vs D b5 i x w'
  | 0, _, _, _, h, _ => h
  | 1, _, _, _, h, _ => h
  | 2, _, _, _, ⟨B, h1, h2⟩, hb => ⟨B, h1, own_to h2 hb⟩
  | 3, _, _, _, h, _ => h
  | 4, _, _, _, h, _ => h
  | 5, _, _, _, ⟨q, c, h1, h2⟩, hb => ⟨q, c, h1, own_to h2 hb⟩
  | _ + 6, _, _, _, ⟨q, c, h1, h2⟩, hb => ⟨q, c, h1, own_to h2 hb⟩
theorem isD_eq {nm : ByteArray} {x : Dir} (h : isD nm x = true) : x.1 = nm := toList_inj (beq_iff_eq.1 h)
theorem find_take {nm : ByteArray} {l : List Dir} {k : Nat} {x : Dir} (h : ∀ (j : Nat) y, j < k → l[j]? = some y → isD nm y = false) (hx : l[k]? = some x) (hm : isD nm x = true) : findD nm l = (x.2, true) := by
  have : l.find? (isD nm) = some x := by
    obtain ⟨hk, rfl⟩ := List.getElem?_eq_some_iff.1 hx
    rw [List.find?_eq_some_iff_getElem]
    exact ⟨hm, k, hk, rfl, fun j hj => by rw [h j l[j] hj (getT (by omega))]; rfl⟩
  unfold findD; rw [this]
theorem find_no {nm : ByteArray} {l : List Dir} (h : ∀ (j : Nat) y, l[j]? = some y → isD nm y = false) : findD nm l = ([], false) := by
  have : l.find? (isD nm) = none := by
    rw [List.find?_eq_none]
    intro x hx
    obtain ⟨i, hi, rfl⟩ := List.getElem_of_mem hx
    rw [h i _ (getT hi)]; simp
  unfold findD; rw [this]
set_option maxHeartbeats 4000000 in
set_option maxRecDepth 100000 in
theorem rfind_is (v : Value) (l : List Dir) (rep : Bool) (nm : ByteArray) (hm : l.length ≤ 1048576) (hz : ∀ x ∈ l, x.2.length ≤ 1048576) (w : World) (hv : Dirs w v l) :
    Calls Tryz.prog 17 #[.agg #[v, .bool rep], .string nm] w fun e w' => (∃ q c, e = .returned (.tuple #[.agg #[.string (if (findD nm l).2 then nm else ⟨#[]⟩), .slice q (findD nm l).1.length c], .bool (findD nm l).2]) ∧ OwnS w' w.heap.size (.slice q (findD nm l).1.length c) (findD nm l).1) ∧ Below w.heap.size w w' := by
  have hv' := hv
  obtain ⟨p, cap, rfl, hcap, _⟩ := hv
  obtain ⟨n, hn⟩ : ∃ n, l.length = n := ⟨_, rfl⟩
  rw [hn] at hm hv' hcap ⊢
  obtain ⟨X, hX⟩ : ∃ X, (w.alloc (.cells #[.slice p n cap, .bool rep] 25)).alloc (.cells #[.string ⟨#[]⟩, .slice none 0 0] 35) = X := ⟨_, rfl⟩
  have hB0 : Below w.heap.size w X := hX ▸ (bnew w _).alloc (by simp) _
  have hs0 : X.heap.size = w.heap.size + 2 := by rw [← hX]; simp
  have h1 : Has X w.heap.size (.cells #[.slice p n cap, .bool rep] 25) := hX ▸ (Has.new w _).alloc _
  have h2 : Has X (w.heap.size + 1) (.cells #[.string ⟨#[]⟩, .slice none 0 0] 35) := by
    have := Has.new (w.alloc (.cells #[.slice p n cap, .bool rep] 25)) (.cells #[.string ⟨#[]⟩, .slice none 0 0] 35)
    rw [hX, World.size_alloc] at this; exact this
  have HN := Lib.hid hn
  have HV := Lib.hid hv'
  have HB := Lib.hid hB0
  have H2 := Lib.hid h2
  have HZ := Lib.hid hz
  have x0 := h1.cell 0 rfl
  obtain ⟨fd, hfd⟩ : ∃ fd, findD nm l = fd := ⟨_, rfl⟩
  rw [hfd]
  obtain ⟨fl, fb⟩ := fd
  have HFD := Lib.hid hfd
  simp only
  obtain ⟨s0, hs0'⟩ : ∃ s0, (if fb = true then nm else (⟨#[]⟩ : ByteArray)) = s0 := ⟨_, rfl⟩
  have HS0 := Lib.hid hs0'
  rw [hs0']
  clear hs0'
  clear hv' hB0 h1 h2 hn hz hfd
  go_enter Tryz.func17, Tryz.ntmps17
  go_wp2_with fail
  clear hX x0
  go_loopw [11] (fun i wr => ∃ k : Nat, k ≤ n ∧ i = .int .i64 k ∧ Hid (∀ (j : Nat) y, j < k → l[j]? = some y → isD nm y = false) ∧ Hid (Below X.heap.size X wr)) (fun i _ => n - (intOf i).toNat)
  case atStart => exact ⟨0, by omega, rfl, Lib.hid (fun j y hj => by omega), Lib.hid (Below.refl _ _)⟩
  case round =>
    obtain ⟨k, hk, rfl, HE, HW⟩ := hrel
    have hsz : X.heap.size ≤ wr.heap.size := HW.out.size
    have HBW := Lib.hid (show Below w.heap.size w wr from HB.out.trans (HW.out.mono (by omega)))
    have HR := Lib.hid (H2.out.to HW.out)
    by_cases hlt : k < n
    · have hkl : k < l.length := by rw [HN.out]; exact hlt
      have i1 : (k : Int) < (n : Int) := by omega
      obtain ⟨p', c', e', _, hA⟩ := HV.out.to HBW.out
      simp only [Value.slice.injEq] at e'
      obtain ⟨rfl, -, rfl⟩ := e'
      obtain ⟨g, o, vx, rfl, hg, hx, hy, hz⟩ := hA k l[k] (getT hkl)
      have hz64 := HZ.out l[k] (List.getElem_mem hkl)
      have HHIT := Lib.hid (fun h : isD nm l[k] = true => (HFD.out.symm.trans (find_take HE.out (getT hkl) h)))
      have HMIS := Lib.hid (show isD nm l[k] = false → ∀ (j : Nat) y, j < k + 1 → l[j]? = some y → isD nm y = false from fun h j y hj hjy => by
        by_cases hjk : j = k
        · subst hjk; rw [getT hkl] at hjy; cases hjy; exact h
        · exact HE.out j y (by omega) hjy)
      clear hA HE
      generalize l[k] = f at *
      clear hkl
      obtain ⟨a, b⟩ := f
      simp only at hx hz hz64
      have HS := Lib.hid hz
      obtain ⟨q2, c2, rfl, _⟩ := hz
      obtain ⟨W1, hW1⟩ : ∃ W1, wr.alloc (.cells #[.string a, .slice q2 b.length c2] 35) = W1 := ⟨_, rfl⟩
      have hbW : Below wr.heap.size wr W1 := hW1 ▸ bnew wr _
      have h5 : Has W1 wr.heap.size (.cells #[.string a, .slice q2 b.length c2] 35) := hW1 ▸ Has.new wr _
      have H5 := Lib.hid h5
      have HBW1 := Lib.hid hbW
      have HSW := Lib.hid (HS.out.to hbW)
      have HRW := Lib.hid (HR.out.to hbW)
      have hsz1 : wr.heap.size + 1 ≤ W1.heap.size := by rw [← hW1]; simp
      have y0 := h5.cell 0 rfl
      clear hbW HS h5 HR
      cases hm0 : isD nm (a, b) with
      | false =>
        have gs : (a.toList == nm.toList) = false := hm0
        have HT := Lib.hid (HMIS.out hm0)
        clear HHIT HMIS hm0
        go_wp2_with fail
        go_roundw
        case rel => exact ⟨k + 1, by omega, by go_num, HT, Lib.hid (HW.out.trans (HBW1.out.mono hsz))⟩
        case measure => simp [intOf]; omega
      | true =>
        have gs : (a.toList == nm.toList) = true := hm0
        have HT := Lib.hid (HHIT.out hm0)
        obtain rfl : a = nm := isD_eq hm0
        clear HHIT HMIS hm0
        go_wp2_with fail
        refine (wpIn_wide (n := 0)).1 ?_
        refine wpIn_region_tail (by kernel_rfl) 7 (by decide) (fun i => 19 + i) (VF b.length a (.slice q2 b.length c2) b (w.heap.size + 2) wr.heap.size) (fun w7 => Below W1.heap.size W1 w7) ?hlt ?hinj (by kernel_rfl) (by kernel_rfl) (VF_mono _ _ _ _ _ _) (fun _ _ h h' => h.trans (h'.mono h.size)) ?h0 ?hop ?htail
        case hlt => intro i hi; simp only [List.size_toArray, List.length_cons, List.length_nil]; omega
        case hinj => intro i j hi hj h; have h : 19 + i = 19 + j := h; omega
        case h0 => exact Below.drew (Below.refl _ _)
        case hop =>
          intro i o hi ho a2 w7 hF hg7 hd
          have hcase : i = 0 ∨ i = 1 ∨ i = 2 ∨ i = 3 ∨ i = 4 ∨ i = 5 ∨ i = 6 := by omega
          have h7 : a2.eval (.tmp 7) = .pointer (some ⟨wr.heap.size, 0, none⟩) := (hF.2.2 7 (fun i _ => by show 19 + i ≠ 7; omega)).trans rfl
          have hc50 : w7.cell? ⟨wr.heap.size, 0, none⟩ = some (.string a) := (H5.out.to hg7).cell 0 rfl
          have hc51 : w7.cell? ⟨wr.heap.size, 1, none⟩ = some (.slice q2 b.length c2) := (H5.out.to hg7).cell 1 rfl
          have hD7 := hg7.size
          have HS7 := Lib.hid (HSW.out.to hg7)
          have HD0 := Lib.hid hd
          clear hd hF
          rcases hcase with rfl | rfl | rfl | rfl | rfl | rfl | rfl
          all_goals
            simp only [List.getElem?_toArray, List.getElem?_cons_zero, List.getElem?_cons_succ, Option.some.injEq] at ho
            subst ho
            have hd := HD0.out
            simp [Region.binds, VF] at hd
            refine ⟨rfl, ?_⟩
          · unfold Oper.wpIn
            refine ⟨fun _ _ => trivial, ?_⟩
            rw [Oper.semAt_plain Fence.wide _ _ (by intro c hc'; cases hc')]
            simp [execOp, h7]
            simp [go_sem]
            exact ⟨_, rfl, rfl, Below.refl _ _⟩
          · unfold Oper.wpIn
            refine ⟨fun _ _ => trivial, ?_⟩
            rw [Oper.semAt_plain Fence.wide _ _ (by intro c hc'; cases hc')]
            simp [execOp, hd]
            simp [go_sem, hc50]
            exact ⟨_, rfl, rfl, Below.refl _ _⟩
          · unfold Oper.wpIn
            refine ⟨fun _ _ => trivial, ?_⟩
            rw [Oper.semAt_plain Fence.wide _ _ (by intro c hc'; cases hc')]
            simp [execOp]
            simp [go_sem, Oper.uponIn]
            exact ⟨_, rfl, ⟨_, rfl, World.ownsRow_lit w7 #[] 0 (by omega) (by decide) rfl⟩, bnew _ _⟩
          · unfold Oper.wpIn
            refine ⟨fun _ _ => trivial, ?_⟩
            rw [Oper.semAt_plain Fence.wide _ _ (by intro c hc'; cases hc')]
            simp [execOp, h7]
            simp [go_sem]
            exact ⟨_, rfl, rfl, Below.refl _ _⟩
          · unfold Oper.wpIn
            refine ⟨fun _ _ => trivial, ?_⟩
            rw [Oper.semAt_plain Fence.wide _ _ (by intro c hc'; cases hc')]
            simp [execOp, hd]
            simp [go_sem, hc51]
            exact ⟨_, rfl, rfl, Below.refl _ _⟩
          · obtain ⟨⟨⟨B, hd1⟩, hd2⟩, hd3⟩ := hd
            rw [hd1] at hd2
            cases b with
            | nil =>
              refine oper_append_zero (.tmp 21) (.tmp 23) rfl _ q2 0 c2 hd1 hd3 ?_
              exact ⟨_, rfl, ⟨_, 0, rfl, hd2⟩, Below.refl _ _⟩
            | cons b0 b =>
              obtain ⟨q5, c5, hq5, hcells⟩ := HS7.out
              simp only [Value.slice.injEq] at hq5
              obtain ⟨rfl, -, rfl⟩ := hq5
              obtain ⟨g5, o5, rfl, hg5, _⟩ := hcells 0 b0 rfl
              refine oper_append_fresh (.tmp 21) (.tmp 23) rfl (w.heap.size + 2) B ⟨g5, o5, none⟩ c2 (b0 :: b) (by simp) (by simpa using hz64) (by omega) hd1 hd3 ?_ fun cp w8 ho8 hb8 => ⟨_, rfl, ⟨_, cp, rfl, ho8⟩, hb8⟩
              intro j z hj
              rw [List.getElem?_map] at hj
              obtain ⟨y, hy, rfl⟩ := Option.map_eq_some_iff.1 hj
              obtain ⟨g6, o6, e6, _, h6⟩ := hcells j y hy
              simp only [Option.some.injEq, Addr.mk.injEq, and_true] at e6
              obtain ⟨rfl, rfl⟩ := e6
              rw [Addr.add_lit]; exact h6
          · unfold Oper.wpIn
            refine ⟨fun _ _ => trivial, ?_⟩
            rw [Oper.semAt_plain Fence.wide _ _ (by intro c hc'; cases hc')]
            obtain ⟨hd1, ⟨q3, c3, hd2⟩, hd3⟩ := hd
            rw [hd2] at hd3
            simp [execOp, hd1, hd2]
            simp [go_sem, Oper.uponIn]
            exact ⟨_, rfl, ⟨_, _, rfl, hd3⟩, Below.refl _ _⟩
        case htail =>
          intro a2 w7 hF hg7 hv
          have h4 : a2.eval (.tmp 4) = .pointer (some ⟨w.heap.size + 1, 0, none⟩) := (hF.2.2 4 (fun i _ => by show 19 + i ≠ 4; omega)).trans rfl
          obtain ⟨q8, c8, h25, hos⟩ : ∃ q8 c8, a2.eval (.tmp 25) = .agg #[.string a, .slice q8 b.length c8] ∧ OwnS w7 (w.heap.size + 2) (.slice q8 b.length c8) b := hv 6 (by omega)
          obtain ⟨B, h21, _⟩ : ∃ B, a2.eval (.tmp 21) = .slice (some ⟨B, 0, none⟩) 0 0 ∧ OwnS w7 (w.heap.size + 2) (a2.eval (.tmp 21)) [] := hv 2 (by omega)
          obtain ⟨q7, c7, h24, _⟩ : ∃ q7 c7, a2.eval (.tmp 24) = .slice q7 b.length c7 ∧ OwnS w7 (w.heap.size + 2) (a2.eval (.tmp 24)) b := hv 5 (by omega)
          have ea : a2 = { tmps := #[.agg #[.slice (some ⟨g, o, none⟩) n cap, .bool rep], .string a, .pointer (some ⟨w.heap.size, 0, none⟩), undef, .pointer (some ⟨w.heap.size + 1, 0, none⟩), u5, undef, .pointer (some ⟨wr.heap.size, 0, none⟩), .pointer (some ⟨w.heap.size, 0, none⟩), .slice (some ⟨g, o, none⟩) n cap, .int .i64 n, .int .i64 k, .bool true, .pointer (some ⟨g, o + k * 2, none⟩), .agg #[.string a, .slice q2 b.length c2], .pointer (some ⟨wr.heap.size, 0, none⟩), .string a, .string a, .bool true, .pointer (some ⟨wr.heap.size, 0, none⟩), .string a, .slice (some ⟨B, 0, none⟩) 0 0, .pointer (some ⟨wr.heap.size, 1, none⟩), .slice q2 b.length c2, .slice q7 b.length c7, .agg #[.string a, .slice q8 b.length c8], u26, undef], defers := [] } := (frame_act hF (fun i => ([.pointer (some ⟨wr.heap.size, 0, none⟩), .string a, .slice (some ⟨B, 0, none⟩) 0 0, .pointer (some ⟨wr.heap.size, 1, none⟩), .slice q2 b.length c2, .slice q7 b.length c7, .agg #[.string a, .slice q8 b.length c8]] : List Value).getD i undef) (by
            intro i hi
            have hcase : i = 0 ∨ i = 1 ∨ i = 2 ∨ i = 3 ∨ i = 4 ∨ i = 5 ∨ i = 6 := by omega
            rcases hcase with rfl | rfl | rfl | rfl | rfl | rfl | rfl
            · exact hv 0 (by omega)
            · exact hv 1 (by omega)
            · exact h21
            · exact hv 3 (by omega)
            · exact hv 4 (by omega)
            · exact h24
            · exact h25)).trans (by kernel_rfl)
          have HR7 := Lib.hid (HRW.out.to hg7)
          have HB7 := Lib.hid (HBW.out.trans ((HBW1.out.trans (hg7.mono (by omega))).mono (by omega)))
          have HOS := Lib.hid hos
          have z0 := HR7.out.cell 0 rfl
          have z1 := HR7.out.cell 1 rfl
          have f0 := HR7.out.free 0
          have f1 := HR7.out.free 1
          clear hv hF h21 h24 h25 hos h4
          subst ea
          refine opsIn_cons (o := _) rfl rfl ?_
          unfold Oper.wpIn
          refine ⟨fun _ _ => trivial, ?_⟩
          rw [Oper.semAt_plain Fence.wide _ _ (by intro c hc'; cases hc')]
          simp [execOp, Act.eval]
          simp [go_sem, z0, z1, f0, f1, Oper.uponIn]
          refine opsIn_cons (o := _) rfl rfl ?_
          unfold Oper.wpIn
          refine ⟨fun _ _ => trivial, ?_⟩
          rw [Oper.semAt_plain Fence.wide _ _ (by intro c hc'; cases hc')]
          simp [execOp, Act.eval, Oper.uponIn]
          show Exit.then _ (Exit.inBlock 1 (Exit.then _ _)) .normal { tmps := #[.agg #[.slice (some ⟨g, o, none⟩) n cap, .bool rep], .string a, .pointer (some ⟨w.heap.size, 0, none⟩), undef, .pointer (some ⟨w.heap.size + 1, 0, none⟩), .bool true, undef, .pointer (some ⟨wr.heap.size, 0, none⟩), .pointer (some ⟨w.heap.size, 0, none⟩), .slice (some ⟨g, o, none⟩) n cap, .int .i64 n, .int .i64 k, .bool true, .pointer (some ⟨g, o + k * 2, none⟩), .agg #[.string a, .slice q2 b.length c2], .pointer (some ⟨wr.heap.size, 0, none⟩), .string a, .string a, .bool true, .pointer (some ⟨wr.heap.size, 0, none⟩), .string a, .slice (some ⟨B, 0, none⟩) 0 0, .pointer (some ⟨wr.heap.size, 1, none⟩), .slice q2 b.length c2, .slice q7 b.length c7, .agg #[.string a, .slice q8 b.length c8], u26, undef], defers := [] } ((w7.setCell ⟨w.heap.size + 1, 0, none⟩ (.string a)).setCell ⟨w.heap.size + 1, 1, none⟩ (.slice q8 b.length c8))
          have hR : Has ((w7.setCell ⟨w.heap.size + 1, 0, none⟩ (.string a)).setCell ⟨w.heap.size + 1, 1, none⟩ (.slice q8 b.length c8)) (w.heap.size + 1) (.cells #[.string a, .slice q8 b.length c8] 35) := (HR7.out.set 0 (.string a)).set 1 (.slice q8 b.length c8)
          have hBB := (HB7.out.setCell (p := ⟨w.heap.size + 1, 0, none⟩) (show w.heap.size ≤ w.heap.size + 1 by omega) (.string a)).setCell (p := ⟨w.heap.size + 1, 1, none⟩) (show w.heap.size ≤ w.heap.size + 1 by omega) (.slice q8 b.length c8)
          have hOO := own_set_under (own_set_under HOS.out (p := ⟨w.heap.size + 1, 0, none⟩) (show w.heap.size + 1 < w.heap.size + 2 by omega) (.string a)) (p := ⟨w.heap.size + 1, 1, none⟩) (show w.heap.size + 1 < w.heap.size + 2 by omega) (.slice q8 b.length c8)
          have HALL := Lib.hid (And.intro hR (And.intro hBB hOO))
          clear hR hBB hOO HR7 HB7 HOS z0 z1 f0 f1 hg7
          generalize (w7.setCell ⟨w.heap.size + 1, 0, none⟩ (.string a)).setCell ⟨w.heap.size + 1, 1, none⟩ (.slice q8 b.length c8) = w9 at *
          go_wp2_with fail
          obtain ⟨hR, hBB, hOO⟩ := HALL.out
          have h2 := HT.out
          simp only [Prod.mk.injEq] at h2
          obtain ⟨rfl, rfl⟩ := h2
          have hs := HS0.out
          rw [if_pos rfl] at hs
          subst hs
          exact bodyPost_ret (results_cell_tmp (p := 4) (t2 := 5) rfl _ _ (w.heap.size + 1) 35 _ (0, 0) _ rfl hR Tryz.underlying35 rfl info35) rfl ⟨⟨q8, c8, rfl, own_base hOO (by omega)⟩, hBB⟩
    · have HT := Lib.hid (HFD.out.symm.trans (find_no fun j y hy => HE.out j y (by have := (List.getElem?_eq_some_iff.1 hy).1; rw [HN.out] at this; omega) hy))
      have z0 := HR.out.cell 0 rfl
      have z1 := HR.out.cell 1 rfl
      have f0 := HR.out.free 0
      have f1 := HR.out.free 1
      have hkn : k = n := by omega
      clear HE hkn
      go_wp2_with fail
      have h2 := HT.out
      simp only [Prod.mk.injEq] at h2
      obtain ⟨rfl, rfl⟩ := h2
      have hs := HS0.out
      rw [if_neg (by simp)] at hs
      subst hs
      have hR : Has ((wr.setCell ⟨w.heap.size + 1, 0, none⟩ (.string ⟨#[]⟩)).setCell ⟨w.heap.size + 1, 1, none⟩ (.slice none 0 0)) (w.heap.size + 1) (.cells #[.string ⟨#[]⟩, .slice none 0 0] 35) := (HR.out.set 0 (.string ⟨#[]⟩)).set 1 (.slice none 0 0)
      exact bodyPost_ret (results_cell_tmp (p := 4) (t2 := 5) rfl _ _ (w.heap.size + 1) 35 _ (0, 0) _ rfl hR Tryz.underlying35 rfl info35) rfl ⟨⟨none, 0, rfl, World.ownsRow_nil _ _ _ _⟩, (HBW.out.setCell (p := ⟨w.heap.size + 1, 0, none⟩) (show w.heap.size ≤ w.heap.size + 1 by omega) _).setCell (p := ⟨w.heap.size + 1, 1, none⟩) (show w.heap.size ≤ w.heap.size + 1 by omega) _⟩
end Go.Proofs.YtempmmkdppelaaaGreatDoor
