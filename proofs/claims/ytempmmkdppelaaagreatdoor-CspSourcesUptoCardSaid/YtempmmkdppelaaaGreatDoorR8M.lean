/-
  The document's Parse.
-/
import Derived.Test.YtempmmkdppelaaaGreatDoorR7M
namespace Go.Proofs.YtempmmkdppelaaaGreatDoor
open Go.RowKit Go.Shelf
attribute [local go_sem] Oper.semAt_some
/-- below B all blocks but b are as they were -/
def Kb (B b : Nat) (A C : World) : Prop := A.heap.size ≤ C.heap.size ∧ ∀ g, g < B → g ≠ b → C.heap[g]? = A.heap[g]?
theorem Kb.refl (B b : Nat) (A : World) : Kb B b A A := ⟨Nat.le_refl _, fun _ _ _ => rfl⟩
theorem Kb.below {B b : Nat} {A C E : World} (h : Kb B b A C) (hb : Below C.heap.size C E) (hB : B ≤ C.heap.size) : Kb B b A E := ⟨Nat.le_trans h.1 hb.size, fun g h1 h2 => (hb.block g (by omega)).trans (h.2 g h1 h2)⟩
theorem Kb.set {B b : Nat} {A C : World} (h : Kb B b A C) (i : Nat) (v : Value) : Kb B b A (C.setCell ⟨b, i, none⟩ v) := ⟨by rw [World.size_setCell]; exact h.1, fun g h1 h2 => (Below.heap_setCell C ⟨b, i, none⟩ v g (by simpa using h2)).trans (h.2 g h1 h2)⟩
theorem Kb.grown {B b : Nat} {A C E : World} {row : Option Nat} (h : Kb B b A C) (hg : C.grownBy E row) (hr : ∀ j, row = some j → B ≤ j) (hB : B ≤ C.heap.size) : Kb B b A E :=
  ⟨Nat.le_trans h.1 hg.size, fun g h1 h2 => (hg.block g (by omega) (fun e => by have := hr g e.symm; omega)).trans (h.2 g h1 h2)⟩
theorem own_kb {A C : World} {D b e size n : Nat} {v : Value} {xs : List Value} (h : A.ownsRow D e size v n xs) (hD : b < D) (hk : Kb A.heap.size b A C) : C.ownsRow D e size v n xs := by
  refine ⟨h.1, h.2.imp id ?_⟩
  rintro ⟨g, cap, cur, h1, h2, h3, h4⟩
  exact ⟨g, cap, cur, h1, h2, (hk.2 g (Array.getElem?_eq_some_iff.1 h3).1 (by omega)).trans h3, h4⟩
theorem info25s : (Tryz.prog.info? 25).map (·.size) = some 2 := by kernel_rfl
theorem mk_toList (x : List UInt8) : (mkB x).data.toList = x := rfl
set_option maxHeartbeats 1000000 in
theorem rparse_long (u : ByteArray) (rep : Bool) (hu : 4096 < u.size) (hm : u.size ≤ 281474976710656) (w : World) :
    Calls Tryz.prog 11 #[.string u, .bool rep] w fun e w' => e = .returned (.tuple #[polV (.slice none 0 0) false, .int .i64 4]) ∧ Below w.heap.size w w' := by
  have g1 : decide ((4096 : Int) < (u.size : Int)) = true := by simp; omega
  obtain ⟨X, hX⟩ : ∃ X, w.alloc (.cells #[.slice none 0 0, .bool false] 25) = X := ⟨_, rfl⟩
  have hb0 : Below w.heap.size w X := hX ▸ bnew w _
  have h1 : Has X w.heap.size (.cells #[.slice none 0 0, .bool false] 25) := hX ▸ Has.new w _
  have HB := Lib.hid hb0
  have H1 := Lib.hid h1
  have z0 := h1.cell 0 rfl
  have f0 := h1.free 0
  have h2 : Has (X.setCell ⟨w.heap.size, 0, none⟩ (.slice none 0 0)) w.heap.size (.cells #[.slice none 0 0, .bool false] 25) := h1.set 0 _
  have z1 := h2.cell 1 rfl
  have f1 := h2.free 1
  have H2 := Lib.hid h2
  clear h1 h2 hb0
  go_enter Tryz.func11, Tryz.ntmps11
  go_wp2_with fail
  have hR : Has ((X.setCell ⟨w.heap.size, 0, none⟩ (.slice none 0 0)).setCell ⟨w.heap.size, 1, none⟩ (.bool false)) w.heap.size (.cells #[.slice none 0 0, .bool false] 25) := H2.out.set 1 _
  exact bodyPost_ret (results_cell_tmp (p := 4) (t2 := 5) rfl _ _ w.heap.size 25 _ (0, 0) _ rfl hR Tryz.underlying25 rfl info25s) rfl ⟨rfl, (HB.out.setCell (p := ⟨w.heap.size, 0, none⟩) (Nat.le_refl _) _).setCell (p := ⟨w.heap.size, 1, none⟩) (Nat.le_refl _) _⟩
theorem parts_size (c : UInt8) : ∀ l : List UInt8, (∀ x ∈ Ks.partsAt c l, x.length ≤ l.length) ∧ (Ks.partsAt c l).length ≤ l.length + 1
  | [] => by simp [Ks.partsAt]
  | b :: r => by
    obtain ⟨h1, h2⟩ := parts_size c r
    unfold Ks.partsAt
    split
    · refine ⟨fun x hx => ?_, by simp; omega⟩
      rcases List.mem_cons.1 hx with rfl | hx
      · simp
      · exact Nat.le_trans (h1 x hx) (by simp)
    · cases hp : Ks.partsAt c r with
      | nil => exact absurd hp (Ks.partsAt_ne c r)
      | cons y ys =>
        rw [hp] at h1 h2
        refine ⟨fun x hx => ?_, by simp at h2 ⊢; omega⟩
        simp only [List.headD_cons, List.tail_cons] at hx
        rcases List.mem_cons.1 hx with rfl | hx
        · have := h1 y (by simp); simp; omega
        · exact Nat.le_trans (h1 x (by simp [hx])) (by simp)
/-- the list behind the first of its texts -/
theorem strs_tail2 {w : World} {B A : Nat} {a : ByteArray} {vs : List ByteArray} {n c : Nat} (h : OwnS w B (.slice (some ⟨A, 0, none⟩) n c) (a :: vs)) (o : Nat) (ho : vs ≠ [] → o = 1) (c' : Nat) : Strs w (.slice (some ⟨A, o, none⟩) vs.length c') vs := by
  obtain ⟨_, _, e, hc⟩ := strs_tail h o ho
  simp only [Value.slice.injEq] at e
  obtain ⟨rfl, _, _⟩ := e
  exact ⟨_, _, rfl, hc⟩
theorem find_any (nm : ByteArray) (l : List Dir) : (findD nm l).2 = l.any (isD nm) := by
  unfold findD
  cases h : l.find? (isD nm) with
  | none =>
    symm; rw [List.any_eq_false]
    exact fun x hx => by have := List.find?_eq_none.1 h x hx; simpa using this
  | some x => exact (List.any_eq_true.2 ⟨x, List.mem_of_find?_eq_some h, List.find?_some h⟩).symm
/-- what the operations of a directive's reading yield -/
def VT (A m c7 : Nat) (a : ByteArray) (vs : List ByteArray) (D D2 : Nat) (i : Nat) (x : Value) (w : World) : Prop :=
  match i with
  | 0 => x = .slice (some ⟨A, 0, none⟩) m c7
  | 1 => x = .pointer (some ⟨A, 0, none⟩)
  | 2 => x = .string a
  | 3 => x = .string (lowS a)
  | 4 => ∃ B, x = .slice (some ⟨B, 0, none⟩) 0 0 ∧ OwnS w D x []
  | 5 => x = .slice (some ⟨A, 0, none⟩) m c7
  | 6 => ∃ p c, x = .slice p vs.length c ∧ Strs w x vs
  | 7 => ∃ q c, x = .slice q vs.length c ∧ OwnS w D x vs
  | 8 => ∃ q c, x = .agg #[.string (lowS a), .slice q vs.length c] ∧ OwnS w D (.slice q vs.length c) vs
  | _ => ∃ g, x = .pointer (some ⟨g, 0, none⟩) ∧ D2 ≤ g ∧ w.heap[g]? = some (.cells #[.string ⟨#[]⟩, .slice none 0 0] 35 (0, 0))
theorem VT_mono (A m c7 : Nat) (a : ByteArray) (vs : List ByteArray) (D D2 : Nat) : ∀ (i : Nat) (x : Value) (w w' : World), VT A m c7 a vs D D2 i x w → Below w.heap.size w w' → VT A m c7 a vs D D2 i x w'
  | 0, _, _, _, h, _ => h
  | 1, _, _, _, h, _ => h
  | 2, _, _, _, h, _ => h
  | 3, _, _, _, h, _ => h
  | 4, _, _, _, ⟨B, h1, h2⟩, hb => ⟨B, h1, own_to h2 hb⟩
  | 5, _, _, _, h, _ => h
  | 6, _, _, _, ⟨p, c, h1, h2⟩, hb => ⟨p, c, h1, h2.to hb⟩
  | 7, _, _, _, ⟨q, c, h1, h2⟩, hb => ⟨q, c, h1, own_to h2 hb⟩
  | 8, _, _, _, ⟨q, c, h1, h2⟩, hb => ⟨q, c, h1, own_to h2 hb⟩
  | _ + 9, _, _, _, ⟨g, h1, h2, h3⟩, hb => ⟨g, h1, h2, (hb.block g (Array.getElem?_eq_some_iff.1 h3).1).trans h3⟩
theorem own_other {W : World} {D e size n g t : Nat} {x : Value} {xs : List Value} {cs : Array Value} (hx : W.ownsRow D e size x n xs) (hg : Has W g (.cells cs t)) (ht : t ≠ e) (i : Nat) (u : Value) : (W.setCell ⟨g, i, none⟩ u).ownsRow D e size x n xs := by
  refine ⟨hx.1, hx.2.imp id ?_⟩
  rintro ⟨g2, cap, cur, h1, h2, h3, h4⟩
  refine ⟨g2, cap, cur, h1, h2, (Below.heap_setCell W ⟨g, i, none⟩ u g2 (fun e => ?_)).trans h3, h4⟩
  rw [show g2 = g from e, show W.heap[g]? = _ from hg] at h3
  cases h3; exact ht rfl
set_option maxHeartbeats 4000000 in
set_option maxRecDepth 100000 in
theorem rparse_short (u : ByteArray) (rep : Bool) (hu : u.size ≤ 4096) (w : World) : Calls Tryz.prog 11 #[.string u, .bool rep] w (PaRet w rep (parseD u.data.toList)) := by
  have g1 : decide ((4096 : Int) < (u.size : Int)) = false := by simp; omega
  obtain ⟨X, hX⟩ : ∃ X, (w.alloc (.cells #[.slice none 0 0, .bool false] 25)).alloc (.cells #[.slice none 0 0, .bool rep] 25) = X := ⟨_, rfl⟩
  have hB0 : Below w.heap.size w X := hX ▸ (bnew w _).alloc (by simp) _
  have hs0 : X.heap.size = w.heap.size + 2 := by rw [← hX]; simp
  have h1 : Has X w.heap.size (.cells #[.slice none 0 0, .bool false] 25) := hX ▸ (Has.new w _).alloc _
  have h2 : Has X (w.heap.size + 1) (.cells #[.slice none 0 0, .bool rep] 25) := by
    have := Has.new (w.alloc (.cells #[.slice none 0 0, .bool false] 25)) (.cells #[.slice none 0 0, .bool rep] 25)
    rw [hX, World.size_alloc] at this; exact this
  have HB := Lib.hid hB0
  have H1 := Lib.hid h1
  have H2 := Lib.hid h2
  obtain ⟨ps, hps⟩ : ∃ ps, Ks.partsAt 59 u.data.toList = ps := ⟨_, rfl⟩
  have HS := Lib.hid (split_ref u 59 59 rfl (by omega) X)
  have HPD := Lib.hid (show parseD u.data.toList = partsD ps from by unfold parseD; rw [hps])
  unfold partsL at HS
  rw [hps] at HS
  obtain ⟨l, hl⟩ : ∃ l, ps.map mkB = l := ⟨_, rfl⟩
  have hll : l.length = ps.length := by rw [← hl, List.length_map]
  rw [hl] at HS
  obtain ⟨n, hn⟩ : ∃ n, l.length = n := ⟨_, rfl⟩
  have HN := Lib.hid hn
  have HPL := Lib.hid (hll.symm.trans hn)
  have HAT := Lib.hid (show ∀ (k : Nat) (x : ByteArray), l[k]? = some x → ps[k]? = some x.data.toList ∧ x.size ≤ 4096 from by
    intro k x hx
    rw [← hl, List.getElem?_map] at hx
    obtain ⟨y, hy, rfl⟩ := Option.map_eq_some_iff.1 hx
    refine ⟨hy, ?_⟩
    have h1 := (parts_size 59 u.data.toList).1 y (hps ▸ List.mem_of_getElem? hy)
    rw [Ks.len_list] at h1
    have h2 : (mkB y).size = y.length := (Ks.len_list (mkB y)).symm
    omega)
  have hn4 : n ≤ 4097 := by
    have h1 := (parts_size 59 u.data.toList).2
    rw [hps, Ks.len_list] at h1
    omega
  rw [hn] at HS
  clear hB0 h1 h2 hll hl hn hps
  rw [HPD.out]
  go_enter Tryz.func11, Tryz.ntmps11
  go_wp2_with fail
  refine HS.out.mono ?_
  rintro e W1 ⟨⟨q, c, rfl, hO1⟩, hb1⟩
  have HO1 := Lib.hid hO1
  have HB1 := Lib.hid hb1
  have HR1 := Lib.hid (H1.out.to hb1)
  have HP1 := Lib.hid (H2.out.to hb1)
  have hs1 := hb1.size
  clear hO1 hb1 hX HS H1 H2
  go_wp2_with fail
  go_loopw [22] (fun i wr => ∃ k : Nat, k ≤ n ∧ i = .int .i64 k ∧ Hid (Below (w.heap.size + 1) X wr) ∧ Hid (Kb W1.heap.size (w.heap.size + 1) W1 wr) ∧ Hid (∃ v rs, Has wr (w.heap.size + 1) (.cells #[v, .bool rep] 25) ∧ OwnD wr W1.heap.size v rs ∧ partsD (ps.take k) = some (rs.map RD.dir) ∧ rs.length ≤ 64 ∧ ∀ x ∈ rs, x.vs.length ≤ 64)) (fun i _ => n - (intOf i).toNat)
  case atStart => exact ⟨0, by omega, rfl, Lib.hid (HB1.out.mono (by omega)), Lib.hid (Kb.refl _ _ _), Lib.hid ⟨_, [], HP1.out, ⟨World.ownsRow_nil _ _ _ _, by simp⟩, rfl, by simp, by simp⟩⟩
  case round =>
    obtain ⟨k, hk, rfl, HW, HK, HI⟩ := hrel
    have hsz : W1.heap.size ≤ wr.heap.size := HK.out.1
    have HBW := Lib.hid (show Below w.heap.size w wr from HB.out.trans (HW.out.mono (by omega)))
    by_cases hlt : k < n
    · have hkl : k < l.length := by rw [HN.out]; exact hlt
      have i1 : (k : Int) < (n : Int) := by omega
      have hO2 : OwnS wr X.heap.size (.slice q n c) l := by have := own_kb HO1.out (show w.heap.size + 1 < X.heap.size by omega) HK.out; exact this
      obtain ⟨q', c', e', hcells⟩ := strs_own hO2
      rw [HN.out] at e'
      simp only [Value.slice.injEq] at e'
      obtain ⟨rfl, -, rfl⟩ := e'
      obtain ⟨g, o, rfl, hg, hx⟩ := hcells k l[k] (getT hkl)
      obtain ⟨hpk, hys⟩ := HAT.out k l[k] (getT hkl)
      obtain ⟨v, rs, hv2, hod, hpd, hl64, hv64⟩ := HI.out
      have HV64 := Lib.hid hv64
      have hst : partsD (ps.take (k + 1)) = stepD (some (rs.map RD.dir)) l[k].data.toList := by
        rw [List.take_add_one, hpk]
        show partsD (ps.take k ++ [l[k].data.toList]) = _
        rw [partsD_snoc, hpd]
      clear hO2 hcells hpk hpd
      generalize l[k] = y at *
      have hwl := words_len y.data.toList
      have hwz := words_size y.data.toList
      rw [Ks.len_list] at hwl hwz
      have HW2 := Lib.hid (words_ref y (by omega) wr)
      unfold stepD at hst
      obtain ⟨ws, hws⟩ : ∃ ws, wordsL y.data.toList = ws := ⟨_, rfl⟩
      rw [hws] at hwl hwz hst HW2
      obtain ⟨q6, c6, rfl⟩ : ∃ q c, v = .slice q rs.length c := own_any hod.row
      have HX := Lib.hid (And.intro hv2 hod)
      have HST := Lib.hid hst
      have HZ := Lib.hid hwz
      clear hv2 hod hst hwz hws HI hv64
      cases ws with
      | nil =>
        have HS2 := Lib.hid (show partsD (ps.take (k + 1)) = some (rs.map RD.dir) from HST.out)
        clear HST hkl
        go_wp2_with fail
        refine HW2.out.mono ?_
        rintro e w2 ⟨⟨q7, c7, rfl, _⟩, hb2⟩
        have HB2 := Lib.hid hb2
        clear hb2
        go_wp2_with fail
        go_roundw
        case rel => exact ⟨k + 1, by omega, by go_num, Lib.hid (HW.out.trans (HB2.out.mono (by omega))), Lib.hid (HK.out.below HB2.out hsz), Lib.hid ⟨_, rs, HX.out.1.to HB2.out, HX.out.2.to HB2.out, HS2.out, hl64, HV64.out⟩⟩
        case measure => simp [intOf]; omega
      | cons a vs =>
        obtain ⟨m, hm⟩ : ∃ m, (a :: vs).length = m := ⟨_, rfl⟩
        have hmv : vs.length + 1 = m := by rw [← hm]; rfl
        have g0 : ((m : Int) == 0) = false := beq_eq_false_iff_ne.2 (by omega)
        have HM := Lib.hid hm
        rw [hm] at hwl HW2
        clear hm hkl
        go_wp2_with fail
        refine HW2.out.mono ?_
        rintro e w2 ⟨⟨q7, c7, rfl, hO7⟩, hb2⟩
        have HB2 := Lib.hid hb2
        have HO7 := Lib.hid hO7
        clear hb2 hO7 HW2
        go_wp2_with fail
        obtain ⟨A, rfl⟩ : ∃ A, q7 = some ⟨A, 0, none⟩ := by
          rcases HO7.out.2 with ⟨e1, e2⟩ | ⟨A, _, _, e1, _⟩
          · rw [List.length_cons] at e2; omega
          · simp only [Value.slice.injEq] at e1; exact ⟨A, e1.1⟩
        have hs2 := HB2.out.size
        have hmc : m ≤ c7 := by
          rcases HO7.out.2 with ⟨e1, e2⟩ | ⟨A', cap, _, e1, _, _, h1, _⟩
          · rw [List.length_cons] at e2; omega
          · simp only [Value.slice.injEq] at e1; have := HM.out; omega
        have HL := Lib.hid (fun W' : World => rlower_is a (by have := HZ.out a (by simp); omega) W')
        refine (wpIn_wide (n := 0)).1 ?_
        refine wpIn_region_tail (by kernel_rfl) 10 (by decide) (fun i => if i = 9 then 10 else 31 + i) (VT A m c7 a vs W1.heap.size w2.heap.size) (fun w7 => Below w2.heap.size w2 w7) ?hlt ?hinj (by kernel_rfl) (by kernel_rfl) (VT_mono _ _ _ _ _ _ _) (fun _ _ h h' => h.trans (h'.mono h.size)) ?h0 ?hop ?htail
        case hlt => intro i hi; simp only [List.size_toArray, List.length_cons, List.length_nil]; split <;> omega
        case hinj =>
          intro i j hi hj h
          have h : (if i = 9 then 10 else 31 + i) = (if j = 9 then 10 else 31 + j) := h
          split at h <;> split at h <;> omega
        case h0 => exact Below.drew (Below.refl _ _)
        case hop =>
          intro i o hi ho a2 w7 hF hg7 hd
          have hcase : i = 0 ∨ i = 1 ∨ i = 2 ∨ i = 3 ∨ i = 4 ∨ i = 5 ∨ i = 6 ∨ i = 7 ∨ i = 8 ∨ i = 9 := by omega
          have h9 : a2.eval (.tmp 9) = .slice (some ⟨A, 0, none⟩) m c7 := (hF.2.2 9 (fun i _ => by show (if i = 9 then 10 else 31 + i) ≠ 9; split <;> omega)).trans rfl
          have hO2 : OwnS w7 wr.heap.size (.slice (some ⟨A, 0, none⟩) m c7) (a :: vs) := own_to (by have := HO7.out; exact this) hg7
          have hO' : w7.ownsRow wr.heap.size 9 1 (.slice (some ⟨A, 0, none⟩) m c7) m ((a :: vs).map Value.string) := by have := own_to HO7.out hg7; rw [HM.out] at this; exact this
          have hca : w7.cell? ⟨A, 0, none⟩ = some (.string a) := by rw [hO'.cellAt 0 (by omega)]; rfl
          clear hO'
          have hD7 := hg7.size
          have HT := Lib.hid (fun o ho c' => strs_tail2 hO2 o ho c')
          have HD0 := Lib.hid hd
          clear hd hF hO2
          rcases hcase with rfl | rfl | rfl | rfl | rfl | rfl | rfl | rfl | rfl | rfl
          all_goals
            simp only [List.getElem?_toArray, List.getElem?_cons_zero, List.getElem?_cons_succ, Option.some.injEq] at ho
            subst ho
            have hd := HD0.out
            simp [Region.binds, VT] at hd
            refine ⟨rfl, ?_⟩
          · unfold Oper.wpIn
            refine ⟨fun _ _ => trivial, ?_⟩
            rw [Oper.semAt_plain Fence.wide _ _ (by intro c hc'; cases hc')]
            simp [execOp, h9, Oper.uponIn]
            exact ⟨_, rfl, rfl, Below.refl _ _⟩
          · unfold Oper.wpIn
            refine ⟨fun _ _ => trivial, ?_⟩
            rw [Oper.semAt_plain Fence.wide _ _ (by intro c hc'; cases hc')]
            simp [execOp, hd]
            simp [go_sem]
            rw [if_pos (by omega : 0 < m)]
            exact ⟨_, rfl, rfl, Below.refl _ _⟩
          · unfold Oper.wpIn
            refine ⟨fun _ _ => trivial, ?_⟩
            rw [Oper.semAt_plain Fence.wide _ _ (by intro c hc'; cases hc')]
            simp [execOp, hd]
            simp [go_sem, hca]
            exact ⟨_, rfl, rfl, Below.refl _ _⟩
          · unfold Oper.wpIn
            refine ⟨fun _ _ => trivial, ?_⟩
            rw [Oper.semAt_plain Fence.wide _ _ (by intro c hc'; cases hc')]
            simp [execOp, resolve, invoke, hd]
            simp [go_sem, Oper.uponIn]
            refine ⟨rfl, ?_⟩
            refine (callsIn_wide.2 (HL.out w7)).mono ?_
            rintro e w3 ⟨rfl, hb3⟩
            exact ⟨_, rfl, rfl, hb3⟩
          · unfold Oper.wpIn
            refine ⟨fun _ _ => trivial, ?_⟩
            rw [Oper.semAt_plain Fence.wide _ _ (by intro c hc'; cases hc')]
            simp [execOp]
            simp [go_sem, Oper.uponIn]
            exact ⟨_, rfl, ⟨_, rfl, World.ownsRow_lit w7 #[] 0 (by omega) (by decide) rfl⟩, bnew _ _⟩
          · unfold Oper.wpIn
            refine ⟨fun _ _ => trivial, ?_⟩
            rw [Oper.semAt_plain Fence.wide _ _ (by intro c hc'; cases hc')]
            simp [execOp, h9, Oper.uponIn]
            exact ⟨_, rfl, rfl, Below.refl _ _⟩
          · unfold Oper.wpIn
            refine ⟨fun _ _ => trivial, ?_⟩
            rw [Oper.semAt_plain Fence.wide _ _ (by intro c hc'; cases hc')]
            simp [execOp, hd]
            simp [go_sem]
            rw [if_pos (by omega : (1 : Int) ≤ (m : Int)), show m - 1 = vs.length by omega]
            refine ⟨_, rfl, ⟨_, _, rfl, ?_⟩, Below.refl _ _⟩
            split
            · exact HT.out 0 (fun h => absurd (List.eq_nil_of_length_eq_zero (by omega)) h) _
            · exact HT.out 1 (fun _ => rfl) _
          · obtain ⟨⟨⟨B, hd1⟩, hd2⟩, ⟨⟨p9, c9, hd3⟩, hd4⟩, _⟩ := hd
            rw [hd1] at hd2
            rw [hd3] at hd4
            cases vs with
            | nil =>
              refine oper_append_zero (.tmp 35) (.tmp 37) rfl _ p9 0 c9 hd1 hd3 ?_
              exact ⟨_, rfl, ⟨_, 0, rfl, hd2⟩, Below.refl _ _⟩
            | cons b0 vs =>
              obtain ⟨q5, c5, hq5, hcells⟩ := hd4
              simp only [Value.slice.injEq] at hq5
              obtain ⟨rfl, -, rfl⟩ := hq5
              obtain ⟨g5, o5, rfl, hg5, _⟩ := hcells 0 b0 rfl
              refine oper_append_fresh (.tmp 35) (.tmp 37) rfl W1.heap.size B ⟨g5, o5, none⟩ c9 (b0 :: vs) (by simp) (by rw [List.length_cons] at hmv ⊢; omega) (by omega) hd1 hd3 ?_ fun cp w8 ho8 hb8 => ⟨_, rfl, ⟨_, cp, rfl, ho8⟩, hb8⟩
              intro j z hj
              rw [List.getElem?_map] at hj
              obtain ⟨y, hy, rfl⟩ := Option.map_eq_some_iff.1 hj
              obtain ⟨g6, o6, e6, _, h6⟩ := hcells j y hy
              simp only [Option.some.injEq, Addr.mk.injEq, and_true] at e6
              obtain ⟨rfl, rfl⟩ := e6
              rw [Addr.add_lit]; exact h6
          · unfold Oper.wpIn
            refine ⟨fun _ _ => trivial, ?_⟩
            rw [Oper.semAt_plain Fence.wide _ _ (by intro c hc'; cases hc')]
            obtain ⟨hd1, ⟨q3, c3, hd2⟩, hd3⟩ := hd
            rw [hd2] at hd3
            simp [execOp, hd1, hd2]
            simp [go_sem, Oper.uponIn]
            exact ⟨_, rfl, ⟨_, _, rfl, hd3⟩, Below.refl _ _⟩
          · unfold Oper.wpIn
            refine ⟨fun _ _ => trivial, ?_⟩
            rw [Oper.semAt_plain Fence.wide _ _ (by intro c hc'; cases hc')]
            simp [execOp]
            simp [go_sem, Oper.uponIn]
            exact ⟨_, rfl, ⟨_, rfl, hD7, heap_alloc_new w7 _⟩, bnew _ _⟩
        case htail =>
          intro a2 w7 hF hg7 hv
          obtain ⟨B, h35, _⟩ : ∃ B, a2.eval (.tmp 35) = .slice (some ⟨B, 0, none⟩) 0 0 ∧ OwnS w7 W1.heap.size (a2.eval (.tmp 35)) [] := hv 4 (by omega)
          obtain ⟨p9, c9, h37, _⟩ : ∃ p9 c9, a2.eval (.tmp 37) = .slice p9 vs.length c9 ∧ Strs w7 (a2.eval (.tmp 37)) vs := hv 6 (by omega)
          obtain ⟨q8, c8, h38, _⟩ : ∃ q8 c8, a2.eval (.tmp 38) = .slice q8 vs.length c8 ∧ OwnS w7 W1.heap.size (a2.eval (.tmp 38)) vs := hv 7 (by omega)
          obtain ⟨q5, c5, h39, hos⟩ : ∃ q5 c5, a2.eval (.tmp 39) = .agg #[.string (lowS a), .slice q5 vs.length c5] ∧ OwnS w7 W1.heap.size (.slice q5 vs.length c5) vs := hv 8 (by omega)
          obtain ⟨G, h10, hGl, hGh⟩ : ∃ G, a2.eval (.tmp 10) = .pointer (some ⟨G, 0, none⟩) ∧ w2.heap.size ≤ G ∧ w7.heap[G]? = some (.cells #[.string ⟨#[]⟩, .slice none 0 0] 35 (0, 0)) := hv 9 (by omega)
          have ea : a2 = { tmps := #[.string u, .bool rep, undef, undef, .pointer (some ⟨w.heap.size, 0, none⟩), u5, .pointer (some ⟨w.heap.size + 1, 0, none⟩), undef, .string y, .slice (some ⟨A, 0, none⟩) m c7, .pointer (some ⟨G, 0, none⟩), u11, u12, .string u, .int .i64 u.size, .bool false, undef, .bool rep, .agg #[.slice none 0 0, .bool rep], .string u, .slice (some ⟨g, o, none⟩) n c, .int .i64 n, .int .i64 k, .bool true, .pointer (some ⟨g, o + k, none⟩), .string y, .string y, .slice (some ⟨A, 0, none⟩) m c7, .slice (some ⟨A, 0, none⟩) m c7, .int .i64 m, .bool false, .slice (some ⟨A, 0, none⟩) m c7, .pointer (some ⟨A, 0, none⟩), .string a, .string (lowS a), .slice (some ⟨B, 0, none⟩) 0 0, .slice (some ⟨A, 0, none⟩) m c7, .slice p9 vs.length c9, .slice q8 vs.length c8, .agg #[.string (lowS a), .slice q5 vs.length c5], u40, u41, u42, u43, u44, u45, u46, u47, u48, u49, u50, u51, u52, u53, u54, u55, u56, u57, u58, u59, u60, u61, u62, u63, u64, u65, undef], defers := [] } := (frame_act hF (fun i => ([.slice (some ⟨A, 0, none⟩) m c7, .pointer (some ⟨A, 0, none⟩), .string a, .string (lowS a), .slice (some ⟨B, 0, none⟩) 0 0, .slice (some ⟨A, 0, none⟩) m c7, .slice p9 vs.length c9, .slice q8 vs.length c8, .agg #[.string (lowS a), .slice q5 vs.length c5], .pointer (some ⟨G, 0, none⟩)] : List Value).getD i undef) (by
            intro i hi
            have hcase : i = 0 ∨ i = 1 ∨ i = 2 ∨ i = 3 ∨ i = 4 ∨ i = 5 ∨ i = 6 ∨ i = 7 ∨ i = 8 ∨ i = 9 := by omega
            rcases hcase with rfl | rfl | rfl | rfl | rfl | rfl | rfl | rfl | rfl | rfl
            · exact hv 0 (by omega)
            · exact hv 1 (by omega)
            · exact hv 2 (by omega)
            · exact hv 3 (by omega)
            · exact h35
            · exact hv 5 (by omega)
            · exact h37
            · exact h38
            · exact h39
            · exact h10)).trans (by kernel_rfl)
          have HG7 := Lib.hid (show Has w7 G (.cells #[.string ⟨#[]⟩, .slice none 0 0] 35) from hGh)
          have HOS := Lib.hid hos
          have HB7 := Lib.hid hg7
          have hs7 := hg7.size
          have z0 := HG7.out.cell 0 rfl
          have z1 := HG7.out.cell 1 rfl
          have f0 := HG7.out.free 0
          have f1 := HG7.out.free 1
          clear hv hF h35 h37 h38 h39 h10 hos hGh hg7
          subst ea
          refine opsIn_cons (o := _) rfl rfl ?_
          unfold Oper.wpIn
          refine ⟨fun _ _ => trivial, ?_⟩
          rw [Oper.semAt_plain Fence.wide _ _ (by intro c hc'; cases hc')]
          simp [execOp, Act.eval]
          simp [go_sem, z0, z1, f0, f1, Oper.uponIn]
          show Exit.then _ (Exit.inBlock 1 (Exit.then _ _)) .normal { tmps := #[.string u, .bool rep, undef, undef, .pointer (some ⟨w.heap.size, 0, none⟩), u5, .pointer (some ⟨w.heap.size + 1, 0, none⟩), undef, .string y, .slice (some ⟨A, 0, none⟩) m c7, .pointer (some ⟨G, 0, none⟩), u11, u12, .string u, .int .i64 u.size, .bool false, undef, .bool rep, .agg #[.slice none 0 0, .bool rep], .string u, .slice (some ⟨g, o, none⟩) n c, .int .i64 n, .int .i64 k, .bool true, .pointer (some ⟨g, o + k, none⟩), .string y, .string y, .slice (some ⟨A, 0, none⟩) m c7, .slice (some ⟨A, 0, none⟩) m c7, .int .i64 m, .bool false, .slice (some ⟨A, 0, none⟩) m c7, .pointer (some ⟨A, 0, none⟩), .string a, .string (lowS a), .slice (some ⟨B, 0, none⟩) 0 0, .slice (some ⟨A, 0, none⟩) m c7, .slice p9 vs.length c9, .slice q8 vs.length c8, .agg #[.string (lowS a), .slice q5 vs.length c5], u40, u41, u42, u43, u44, u45, u46, u47, u48, u49, u50, u51, u52, u53, u54, u55, u56, u57, u58, u59, u60, u61, u62, u63, u64, u65, undef], defers := [] } ((w7.setCell ⟨G, 0, none⟩ (.string (lowS a))).setCell ⟨G, 1, none⟩ (.slice q5 vs.length c5))
          have hG9 : Has ((w7.setCell ⟨G, 0, none⟩ (.string (lowS a))).setCell ⟨G, 1, none⟩ (.slice q5 vs.length c5)) G (.cells #[.string (lowS a), .slice q5 vs.length c5] 35) := (HG7.out.set 0 (.string (lowS a))).set 1 (.slice q5 vs.length c5)
          have hB9 : Below w2.heap.size w2 ((w7.setCell ⟨G, 0, none⟩ (.string (lowS a))).setCell ⟨G, 1, none⟩ (.slice q5 vs.length c5)) := (HB7.out.setCell (p := ⟨G, 0, none⟩) hGl (.string (lowS a))).setCell (p := ⟨G, 1, none⟩) hGl (.slice q5 vs.length c5)
          have hO9 : OwnS ((w7.setCell ⟨G, 0, none⟩ (.string (lowS a))).setCell ⟨G, 1, none⟩ (.slice q5 vs.length c5)) W1.heap.size (.slice q5 vs.length c5) vs := own_other (own_other HOS.out HG7.out (by decide) 0 (.string (lowS a))) (HG7.out.set 0 (.string (lowS a))) (by decide) 1 _
          have HALL := Lib.hid (And.intro hG9 (And.intro hB9 hO9))
          clear hG9 hB9 hO9 HG7 HB7 HOS z0 z1 f0 f1 hs7
          generalize (w7.setCell ⟨G, 0, none⟩ (.string (lowS a))).setCell ⟨G, 1, none⟩ (.slice q5 vs.length c5) = w9 at *
          obtain ⟨hG9, hB9, hO9⟩ := HALL.out
          have hs9 := hB9.size
          have HBR := Lib.hid (show Below wr.heap.size wr w9 from HB2.out.trans (hB9.mono hs2))
          have HG9 := Lib.hid hG9
          have HO9 := Lib.hid hO9
          have HX9 := Lib.hid (HX.out.1.to HBR.out)
          have HD9 := Lib.hid (HX.out.2.to HBR.out)
          have HRF := Lib.hid (rfind_is (.slice q6 rs.length c6) (rs.map RD.dir) rep (lowS a) (by rw [List.length_map]; omega) (fun x hx => by
            obtain ⟨r, hr, rfl⟩ := List.mem_map.1 hx
            have := HV64.out r hr
            show r.vs.length ≤ 1048576; omega) w9 HD9.out.dirs)
          have z0 := HX9.out.cell 0 rfl
          have z1 := HX9.out.cell 1 rfl
          have y0 := hG9.cell 0 rfl
          have HFA := Lib.hid (find_any (lowS a) (rs.map RD.dir))
          obtain ⟨fd, hfd⟩ : ∃ fd, findD (lowS a) (rs.map RD.dir) = fd := ⟨_, rfl⟩
          rw [hfd] at HRF HFA
          obtain ⟨fl, fb⟩ := fd
          have HF1 := Lib.hid HFA.out
          clear HALL hG9 hB9 hO9 HX HB2 HO7 HL hfd HFA
          simp only at HRF HF1
          go_wp2_with fail
          refine HRF.out.mono ?_
          rintro e w10 ⟨⟨q11, c11, rfl, _⟩, hb10⟩
          obtain ⟨nm2, hnm2⟩ : ∃ nm2, (if fb = true then lowS a else (⟨#[]⟩ : ByteArray)) = nm2 := ⟨_, rfl⟩
          rw [hnm2]
          obtain ⟨X11, hX11⟩ : ∃ X11, w10.alloc (.cells #[.string nm2, .slice q11 fl.length c11] 35) = X11 := ⟨_, rfl⟩
          have HB11 := Lib.hid (show Below wr.heap.size wr X11 from HBR.out.trans ((hb10.trans ((hX11 ▸ bnew w10 _ : Below w10.heap.size w10 X11).mono hb10.size)).mono HBR.out.size))
          have HB911 := Lib.hid (show Below w9.heap.size w9 X11 from hb10.trans ((hX11 ▸ bnew w10 _ : Below w10.heap.size w10 X11).mono hb10.size))
          have hs11 := HB911.out.size
          clear hnm2 hb10 HRF z0 z1 y0
          cases fb with
          | true =>
            have HT := Lib.hid (show partsD (ps.take (k + 1)) = some (rs.map RD.dir) from by
              have := HST.out
              simp only [← HF1.out, if_true] at this; exact this)
            go_wp2_with fail
            go_roundw
            case rel => exact ⟨k + 1, by omega, by go_num, Lib.hid (HW.out.trans (HB11.out.mono (by omega))), Lib.hid (HK.out.below HB11.out hsz), Lib.hid ⟨_, rs, HX9.out.to HB911.out, HD9.out.to HB911.out, HT.out, hl64, HV64.out⟩⟩
            case measure => simp [intOf]; omega
          | false =>
            have HT := Lib.hid (show partsD (ps.take (k + 1)) = if rs.length = 64 ∨ 64 < vs.length then none else some (rs.map RD.dir ++ [(lowS a, vs)]) from by
              have := HST.out
              simp only [← HF1.out, Bool.false_eq_true, if_false, List.length_map] at this; exact this)
            have HNO := Lib.hid (show partsD (ps.take (k + 1)) = none → partsD ps = none from fun h => partsD_none h (List.take_prefix _ _))
            have g11 := (HG9.out.to HB911.out)
            have x1 := g11.cell 1 rfl
            have x2 := g11.cell 0 rfl
            have x3 := (HX9.out.to HB911.out).cell 0 rfl
            have hR11 : Has X11 w.heap.size (.cells #[.slice none 0 0, .bool false] 25) := Has.to (show Has wr w.heap.size _ from (HK.out.2 w.heap.size (by omega) (by omega)).trans HR1.out) HB11.out
            have HR11 := Lib.hid hR11
            have r0 := hR11.cell 0 rfl
            have r1 := hR11.cell 1 rfl
            have s0 := hR11.free 0
            have s1 := hR11.free 1
            have HBX := Lib.hid (show Below w.heap.size w X11 from HBW.out.trans (HB11.out.mono HBW.out.size))
            clear g11 hR11
            by_cases h65 : 64 < vs.length
            · have j1 : (64 : Int) < (vs.length : Int) := by omega
              have j2 : decide ((64 : Int) < (vs.length : Int)) = true := decide_eq_true j1
              have HN2 := Lib.hid (HNO.out (by rw [HT.out, if_pos (.inr h65)]))
              clear HT
              go_wp2_with fail
              have hR : Has ((X11.setCell ⟨w.heap.size, 0, none⟩ (.slice none 0 0)).setCell ⟨w.heap.size, 1, none⟩ (.bool false)) w.heap.size (.cells #[.slice none 0 0, .bool false] 25) := (HR11.out.set 0 _).set 1 _
              refine bodyPost_ret (results_cell_tmp (p := 4) (t2 := 5) rfl _ _ w.heap.size 25 _ (0, 0) _ rfl hR Tryz.underlying25 rfl info25s) rfl ?_
              unfold PaRet
              rw [HN2.out]
              exact ⟨rfl, (HBX.out.setCell (p := ⟨w.heap.size, 0, none⟩) (Nat.le_refl _) _).setCell (p := ⟨w.heap.size, 1, none⟩) (Nat.le_refl _) _⟩
            · have j1 : ¬ (64 : Int) < (vs.length : Int) := by omega
              have j2 : decide ((64 : Int) < (vs.length : Int)) = false := decide_eq_false j1
              by_cases h64 : rs.length = 64
              · have j3 : (64 : Int) ≤ (rs.length : Int) := by omega
                have j4 : decide ((64 : Int) ≤ (rs.length : Int)) = true := decide_eq_true j3
                have HN2 := Lib.hid (HNO.out (by rw [HT.out, if_pos (.inl h64)]))
                clear HT h64
                go_wp2_with fail
                have hR : Has ((X11.setCell ⟨w.heap.size, 0, none⟩ (.slice none 0 0)).setCell ⟨w.heap.size, 1, none⟩ (.bool false)) w.heap.size (.cells #[.slice none 0 0, .bool false] 25) := (HR11.out.set 0 _).set 1 _
                refine bodyPost_ret (results_cell_tmp (p := 4) (t2 := 5) rfl _ _ w.heap.size 25 _ (0, 0) _ rfl hR Tryz.underlying25 rfl info25s) rfl ?_
                unfold PaRet
                rw [HN2.out]
                exact ⟨rfl, (HBX.out.setCell (p := ⟨w.heap.size, 0, none⟩) (Nat.le_refl _) _).setCell (p := ⟨w.heap.size, 1, none⟩) (Nat.le_refl _) _⟩
              · have j3 : ¬ (64 : Int) ≤ (rs.length : Int) := by omega
                have j4 : decide ((64 : Int) ≤ (rs.length : Int)) = false := decide_eq_false j3
                have HT2 := Lib.hid (show partsD (ps.take (k + 1)) = some (rs.map RD.dir ++ [(lowS a, vs)]) from by rw [HT.out, if_neg (by omega)])
                clear HT
                obtain ⟨i0, hi0, hz0, hz1, hz2⟩ := info_parts info35f
                obtain ⟨Z, hZ⟩ : ∃ Z, X11.alloc (.cells #[.string (lowS a), .slice q5 vs.length c5] 35) = Z := ⟨_, rfl⟩
                have hbZ : Below X11.heap.size X11 Z := hZ ▸ bnew X11 _
                have hnZ : Has Z X11.heap.size (.cells #[.string (lowS a), .slice q5 vs.length c5] 35) := hZ ▸ Has.new X11 _
                have m0 := hnZ.cell 0 rfl
                have m1 := hnZ.cell 1 rfl
                have HB9Z := Lib.hid (HB911.out.trans (hbZ.mono HB911.out.size))
                have HXZ := Lib.hid (HX9.out.to HB9Z.out)
                have HDZ := Lib.hid (HD9.out.to HB9Z.out)
                have HOZ := Lib.hid (own_to HO9.out HB9Z.out)
                have HBZ := Lib.hid (HB11.out.trans (hbZ.mono HB11.out.size))
                have hsZ := hbZ.size
                clear hbZ hnZ HX9 HD9 HO9 HG9 HR11 r0 r1 s0 s1
                go_wp2_with (at_builtin; refine wpList_append_own _ rfl (.tmp 60) (.tmp 62) 23 rfl W1.heap.size 35 i0 (.agg #[.string ⟨#[]⟩, .slice none 0 0]) 2 40 Tryz.underlying23 hi0 hz0 hz1 hz2 rfl (by decide) _ _ _ rfl HDZ.out.row ⟨X11.heap.size, 0, none⟩ 1 1 [.string (lowS a), .slice q5 vs.length c5] rfl rfl ?c1 ?c2 ?c3 ?c4 ?c5 ?_)
                case c1 =>
                  intro j z hj
                  match j, hj with
                  | 0, hj => simp at hj; subst hj; exact m0
                  | 1, hj => simp at hj; subst hj; exact m1
                  | j + 2, hj => simp at hj
                case c2 => intro z hz; simp at hz; rcases hz with rfl | rfl <;> rfl
                case c3 => unfold maxLen; omega
                case c4 => omega
                case c5 => omega
                intro v' w8 hown hgr _
                obtain ⟨p1, p2, p3, p4, p5, p6, p7⟩ := push_all (n := w.heap.size + 1) (b := w.heap.size + 1) HXZ.out HDZ.out HOZ.out hgr hown (by omega) (Nat.le_refl _) (by omega)
                have hkb := ((HK.out.below HBZ.out hsz).grown hgr (fun j ej => (HDZ.out.row.lt j ej).1) (by omega)).set 0 v'
                have hbX := p7 X (HW.out.trans (HBZ.out.mono (by omega)))
                obtain ⟨q12, c12, rfl⟩ := own_any hown
                have HP := Lib.hid (And.intro p3 (And.intro p4 (And.intro hkb hbX)))
                clear p3 p4 p5 p6 p7 hkb hbX hown hgr m0 m1
                go_wp2_with fail
                go_roundw
                case rel => exact ⟨k + 1, by omega, by go_num, Lib.hid HP.out.2.2.2, Lib.hid HP.out.2.2.1, Lib.hid ⟨_, _, HP.out.1, HP.out.2.1, by rw [HT2.out, List.map_append]; rfl, by rw [List.length_append]; simp; omega, fun x hx => by
                  rcases List.mem_append.1 hx with h | h
                  · exact HV64.out x h
                  · rw [List.mem_singleton] at h; subst h; show vs.length ≤ 64; omega⟩⟩
                case measure => simp [intOf]; omega
    · obtain ⟨v, rs, hv2, hod, hpd, hl64, _⟩ := HI.out
      obtain ⟨q6, c6, rfl⟩ : ∃ q c, v = .slice q rs.length c := own_any hod.row
      have HPE := Lib.hid (show partsD ps = some (rs.map RD.dir) from by rw [← hpd, List.take_of_length_le (by rw [HPL.out]; omega)])
      have hRr : Has wr w.heap.size (.cells #[.slice none 0 0, .bool false] 25) := (HK.out.2 w.heap.size (by omega) (by omega)).trans HR1.out
      have z0 := hv2.cell 0 rfl
      have z1 := hv2.cell 1 rfl
      have r0 := hRr.cell 0 rfl
      have r1 := hRr.cell 1 rfl
      have s0 := hRr.free 0
      have s1 := hRr.free 1
      have HRr := Lib.hid hRr
      have HOD := Lib.hid hod
      clear hv2 hod hpd HI hRr
      go_wp2_with fail
      have hR : Has ((wr.setCell ⟨w.heap.size, 0, none⟩ (.slice q6 rs.length c6)).setCell ⟨w.heap.size, 1, none⟩ (.bool rep)) w.heap.size (.cells #[.slice q6 rs.length c6, .bool rep] 25) := (HRr.out.set 0 _).set 1 _
      refine bodyPost_ret (results_cell_tmp (p := 4) (t2 := 5) rfl _ _ w.heap.size 25 _ (0, 0) _ rfl hR Tryz.underlying25 rfl info25s) rfl ?_
      have hO2 : ∀ (W : World) (p : Addr) (u : Value), p.block < W1.heap.size → OwnD W W1.heap.size (.slice q6 rs.length c6) rs → OwnD (W.setCell p u) W1.heap.size (.slice q6 rs.length c6) rs := fun W p u hp h => ⟨own_set_under h.row hp u, fun r hr => own_set_under (h.vals r hr) hp u⟩
      have hF := hO2 _ ⟨w.heap.size, 1, none⟩ (.bool rep) (show w.heap.size < W1.heap.size by omega) (hO2 wr ⟨w.heap.size, 0, none⟩ (.slice q6 rs.length c6) (show w.heap.size < W1.heap.size by omega) HOD.out)
      unfold PaRet
      rw [HPE.out]
      exact ⟨⟨_, rs, rfl, ⟨own_base hF.row (by omega), fun r hr => own_base (hF.vals r hr) (by omega)⟩, rfl, hl64⟩, (HBW.out.setCell (p := ⟨w.heap.size, 0, none⟩) (Nat.le_refl _) _).setCell (p := ⟨w.heap.size, 1, none⟩) (Nat.le_refl _) _⟩
theorem rparse_is (u : ByteArray) (rep : Bool) (hm : u.size ≤ 281474976710656) (w : World) : Calls Tryz.prog 11 #[.string u, .bool rep] w (PolRet w rep (parseP u)) := by
  unfold parseP PolRet
  by_cases h : 4096 < u.size
  · rw [if_pos h]; exact rparse_long u rep h hm w
  · rw [if_neg h]
    refine (rparse_short u rep (by omega) w).mono ?_
    rintro e w' ⟨h1, h2⟩
    refine ⟨?_, h2⟩
    cases hp : parseD u.data.toList with
    | none => rw [hp] at h1; exact h1
    | some l => rw [hp] at h1; exact h1
end Go.Proofs.YtempmmkdppelaaaGreatDoor
