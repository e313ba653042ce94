/-
  query.Sort: the rows are laid, one behind another.
-/
import Derived.Test.YtnjnhgeafbofkaaDoorHSSJM
import Derived.Test.YtnjnhgeafbofkaaDoorG6M
import Derived.OwnWalk
import Derived.Deep.RegionHeld3
import Derived.Deep.CutRange
namespace Go.Proofs.YtnjnhgeafbofkaaDoor
open Go.RowKit
theorem infoRow : (Tryd.prog.info? 67).map (fun i => (i.zero, i.size, i.bytes)) = some (some (.agg #[.string ⟨#[]⟩, .string ⟨#[]⟩, .slice none 0 0]), 3, 56) := by kernel_rfl
theorem made_rows (n : Nat) : (madeCells (Value.agg #[.string ⟨#[]⟩, .string ⟨#[]⟩, .slice none 0 0]).cells (n * 3)).toList = encRs (List.replicate n zRw) := by
  apply List.ext_getElem?
  intro i
  by_cases h : i < n * 3
  · have e := encRs_at (List.replicate n zRw) [] (i / 3) (i % 3) zRw (by rw [List.getElem?_replicate, if_pos (by omega)]) (by omega)
    rw [List.append_nil, show i / 3 * 3 + i % 3 = i by omega] at e
    rw [e]
    have h3 : i % 3 = 0 ∨ i % 3 = 1 ∨ i % 3 = 2 := by omega
    have hm : (madeCells (Value.agg #[.string ⟨#[]⟩, .string ⟨#[]⟩, .slice none 0 0]).cells (n * 3)).toList[i]? = some (#[Value.string ⟨#[]⟩, .string ⟨#[]⟩, .slice none 0 0][i % 3]!) := by
      simp [madeCells, Value.cells, h]
    rw [hm]
    rcases h3 with h3 | h3 | h3 <;> rw [h3] <;> rfl
  · rw [List.getElem?_eq_none (by simp [size_madeCells]; omega), List.getElem?_eq_none (by rw [encRs_len, List.length_replicate]; omega)]
theorem own_slice_any {w : World} {B : Nat} {e : TypeId} {size n : Nat} {v : Value} {xs : List Value} (h : w.ownsRow B e size v n xs) : ∃ q c, v = .slice q n c := by
  rcases h.2 with ⟨rfl, rfl⟩ | ⟨g, cap, cur, rfl, _⟩
  · exact ⟨_, _, rfl⟩
  · exact ⟨_, _, rfl⟩
theorem row_of_made {w : World} {B g n cap : Nat} {D : List Rw} (hl : D.length = n) (h : w.ownsRow B 67 3 (.slice (some ⟨g, 0, none⟩) n cap) n (encRs D)) : ∃ rest, RowR w g rest D := by
  rcases h.2 with ⟨h0, _⟩ | ⟨g', cap', cur, hv, hB, hg, _, _, _, ht⟩
  · cases h0
  · simp only [Value.slice.injEq, Option.some.injEq, Addr.mk.injEq, and_true] at hv
    obtain ⟨rfl, -⟩ := hv
    refine ⟨cur.toList.drop (n * 3), ?_⟩
    unfold RowR Has
    rw [hg, ← ht, List.take_append_drop]
theorem other3 {w : World} {g b j : Nat} (h : b ≠ g) (i0 i1 i2 : Nat) (v0 v1 v2 : Value) : (((w.setCell ⟨g, i0, none⟩ v0).setCell ⟨g, i1, none⟩ v1).setCell ⟨g, i2, none⟩ v2).cell? ⟨b, j, none⟩ = w.cell? ⟨b, j, none⟩ :=
  World.cell?_of_block (w := w) (((Below.heap_setCell _ _ _ _ h).trans (Below.heap_setCell _ _ _ _ h)).trans (Below.heap_setCell _ _ _ _ h))
/-- the first k rows are laid -/
def Laid (w : World) (g : Nat) (l : List Fd) (F : List Rw) (k : Nat) : Prop := ∀ i x, i < k → l[i]? = some x → ∃ r, F[i]? = some r ∧ RwOk w g x r
theorem Laid.to {w w' : World} {g : Nat} {l : List Fd} {F : List Rw} {k : Nat} (h : Laid w g l F k) (hb : Below w.heap.size w w') : Laid w' g l F k := fun i x hi hx => by
  obtain ⟨r, h1, h2⟩ := h i x hi hx
  exact ⟨r, h1, h2.to hb⟩
theorem Laid.store {w : World} {g : Nat} {l : List Fd} {F : List Rw} {k : Nat} (h : Laid w g l F k) (hk : k < F.length) {x : Fd} (hx : l[k]? = some x) {r : Rw} (hr : RwOk w g x r) (i0 i1 i2 : Nat) (v0 v1 v2 : Value) :
    Laid (((w.setCell ⟨g, i0, none⟩ v0).setCell ⟨g, i1, none⟩ v1).setCell ⟨g, i2, none⟩ v2) g l (F.set k r) (k + 1) := fun i y hi hy => by
  by_cases hik : i = k
  · subst hik
    rw [hx] at hy
    cases hy
    exact ⟨r, by simp [hk], ((hr.set _ _).set _ _).set _ _⟩
  · obtain ⟨s, h1, h2⟩ := h i y (by omega) hy
    exact ⟨s, by rw [List.getElem?_set_ne (by omega)]; exact h1, ((h2.set _ _).set _ _).set _ _⟩
def Pl.rw {W0 : World} {g : Nat} (x : Pl W0 g) : Rw := ⟨(x.n, x.v), x.q, x.m, x.c, x.l⟩
theorem encs_rw {W0 : World} {g : Nat} : ∀ D : List (Pl W0 g), encs D = encRs (D.map Pl.rw)
  | [] => rfl
  | x :: D => by rw [encs_cons, List.map_cons, encRs_cons, encs_rw D]; rfl
/-- the rows that are laid, closed over the world -/
theorem laid_all {w : World} {g : Nat} {l : List Fd} {F : List Rw} (h : Laid w g l F l.length) (hF : F.length = l.length) : ∃ D : List (Pl w g), D.map Pl.rw = F ∧ D.map (fun x => (x.n, x.v)) = l ∧ ∀ x ∈ D, x.l = keyU (x.n, x.v) := by
  have each : ∀ i : Fin l.length, RwOk w g l[i.1] (F[i.1]'(by rw [hF]; exact i.2)) := fun i => by
    obtain ⟨r, h1, h2⟩ := h i.1 _ i.2 (getF i.2)
    rw [List.getElem?_eq_getElem (by rw [hF]; exact i.2)] at h1
    cases h1
    exact h2
  refine ⟨List.ofFn (fun i : Fin l.length => (each i).pl), ?_, ?_, ?_⟩
  · apply List.ext_getElem
    · simp [hF]
    · intro i h1 h2
      simp [Pl.rw, RwOk.pl]
  · apply List.ext_getElem
    · simp
    · intro i h1 h2
      simp [RwOk.pl]
      exact (each ⟨i, h2⟩).1
  · intro x hx
    obtain ⟨i, rfl⟩ := (List.mem_ofFn).1 hx
    have := (each i).2.1
    show F[i.1].l = keyU F[i.1].x
    rw [this, (each i).1]
theorem mrg_mapP {α β : Type} (P : α → Prop) (f : α → β) (lt : α → α → Bool) (lt' : β → β → Bool) (h : ∀ a b, P a → P b → lt a b = lt' (f a) (f b)) : ∀ (n : Nat) (xs ys : List α), xs.length + ys.length ≤ n → (∀ a ∈ xs, P a) → (∀ a ∈ ys, P a) → (SM.mrg lt xs ys).map f = SM.mrg lt' (xs.map f) (ys.map f)
  | _, [], ys, _, _, _ => by rw [SM.mrg_nil_l, List.map_nil, SM.mrg_nil_l]
  | _, x :: xs, [], _, _, _ => by rw [SM.mrg_nil_r, List.map_nil, SM.mrg_nil_r]
  | 0, x :: xs, y :: ys, hn, _, _ => by simp at hn
  | n + 1, x :: xs, y :: ys, hn, hx, hy => by
    rw [SM.mrg_cons, List.map_cons, List.map_cons, SM.mrg_cons, ← h y x (hy y (List.mem_cons_self ..)) (hx x (List.mem_cons_self ..))]
    split
    · rw [List.map_cons, mrg_mapP P f lt lt' h n (x :: xs) ys (by simp at hn ⊢; omega) hx (fun a ha => hy a (List.mem_cons_of_mem _ ha))]; rfl
    · rw [List.map_cons, mrg_mapP P f lt lt' h n xs (y :: ys) (by simp at hn ⊢; omega) (fun a ha => hx a (List.mem_cons_of_mem _ ha)) hy]; rfl
theorem S_map {α β : Type} (P : α → Prop) (f : α → β) (lt : α → α → Bool) (lt' : β → β → Bool) (h : ∀ a b, P a → P b → lt a b = lt' (f a) (f b)) (l : List α) (hl : ∀ a ∈ l, P a) : (SM.S lt l).map f = SM.S lt' (l.map f) := by
  have aux : ∀ (l : List α) (acc : List α), (∀ a ∈ l, P a) → (∀ a ∈ acc, P a) → (l.foldl (fun acc x => SM.mrg lt acc [x]) acc).map f = (l.map f).foldl (fun acc x => SM.mrg lt' acc [x]) (acc.map f) := by
    intro l
    induction l with
    | nil => intro acc _ _; rfl
    | cons x l ih =>
      intro acc hl ha
      have hx1 : ∀ a ∈ [x], P a := fun a h => by rw [List.mem_singleton.1 h]; exact hl x (List.mem_cons_self ..)
      rw [List.foldl_cons, ih _ (fun a h => hl a (List.mem_cons_of_mem _ h)) (fun a h => by
        rcases (SM.mrg_mem lt acc [x] a).1 h with h | h
        · exact ha a h
        · exact hx1 a h), List.map_cons, List.foldl_cons, mrg_mapP P f lt lt' h _ acc [x] (Nat.le_refl _) ha hx1]
      rfl
  exact aux l [] hl (fun a h => by cases h)
theorem made_fds (n : Nat) : (madeCells (Value.agg #[.string ⟨#[]⟩, .string ⟨#[]⟩]).cells (n * 2)).toList = encFs (List.replicate n (⟨#[]⟩, ⟨#[]⟩)) := by
  apply List.ext_getElem?
  intro i
  by_cases h : i < n * 2
  · have e := encFs_at (List.replicate n ((⟨#[]⟩, ⟨#[]⟩) : Fd)) [] (i / 2) (⟨#[]⟩, ⟨#[]⟩) (by rw [List.getElem?_replicate, if_pos (by omega)])
    rw [List.append_nil] at e
    have hm : (madeCells (Value.agg #[.string ⟨#[]⟩, .string ⟨#[]⟩]).cells (n * 2)).toList[i]? = some (#[Value.string ⟨#[]⟩, .string ⟨#[]⟩][i % 2]!) := by
      simp [madeCells, Value.cells, h]
    rw [hm]
    have h3 : i % 2 = 0 ∨ i % 2 = 1 := by omega
    rcases h3 with h3 | h3
    · rw [h3, show i = i / 2 * 2 by omega, e.1]; rfl
    · rw [h3, show i = i / 2 * 2 + 1 by omega, e.2]; rfl
  · rw [List.getElem?_eq_none (by simp [size_madeCells]; omega), List.getElem?_eq_none (by rw [Ks.encFs_len, List.length_replicate]; omega)]
set_option maxRecDepth 100000 in
set_option maxHeartbeats 8000000 in
theorem sort_is (q : Option Addr) (cap : Nat) (l : List Fd) (hm : l.length * 56 ≤ 140737488355328) (hf : Fit l) (hk : ∀ x ∈ l, x.1.size * 4 ≤ 70368744177664) (w : World) (hv : Lst w (.slice q l.length cap) l) :
    Calls Tryd.prog 21 #[.slice q l.length cap] w fun e w' => (∃ q' c', e = .returned (.slice q' l.length c') ∧ OwnF w' w.heap.size (.slice q' l.length c') (SM.S (fun a b => decide (cmpU (keyU a) (keyU b) < 0)) l)) ∧ Below w.heap.size w w' := by
  obtain ⟨i0, hi, hz0, hz1, hz2⟩ := info_parts infoRow
  obtain ⟨j0, hj, hy0, hy1, hy2⟩ := info_parts Ks.infoField
  have HV := Lib.hid hv
  obtain ⟨P, hPP⟩ : ∃ P, SM.S (fun a b => decide (cmpU (keyU a) (keyU b) < 0)) l = P := ⟨_, rfl⟩
  have HPP := Lib.hid hPP
  rw [hPP]
  clear hPP
  obtain ⟨n, hn⟩ : ∃ n, l.length = n := ⟨_, rfl⟩
  have HN := Lib.hid hn
  rw [hn] at HV hm ⊢
  clear hv hn
  go_enter Tryd.func21, Tryd.ntmps21
  go_wp2_with (at_make; refine wpList_make_full _ rfl (.tmp 10) (.tmp 10) 63 rfl w.heap.size 67 i0 _ 3 Tryd.underlying63 hi hz0 hz1 _ _ _ _ n rfl rfl rfl rfl (by rw [hz2]; omega) (by unfold maxLen; omega) (Nat.le_refl _) ?_; intro w1 hown1 hgrow1; have HO1 := Lib.hid hown1; have HB1 := Lib.hid (show Below w.heap.size w w1 from (Below.refl _ _).grown hgrow1 (Nat.le_refl _) (fun k hk => by cases hk)); clear hown1 hgrow1)
  rw [made_rows] at HO1
  obtain ⟨rest, hrow⟩ := row_of_made (List.length_replicate) HO1.out
  have HR1 := Lib.hid hrow
  have HU := Lib.hid (fun (x : Fd) (hx : x ∈ l) W => units_is x.1 _ rfl (hk x hx) W)
  have HK := Lib.hid hk
  clear hrow HO1 hk
  obtain ⟨g0, hg0⟩ : ∃ g0, w.heap.size = g0 := ⟨_, rfl⟩
  have HG0 := Lib.hid hg0
  rw [hg0] at HR1 ⊢
  clear hg0
  go_loopw [14] (fun i wr => ∃ (k : Nat) (F : List Rw), k ≤ n ∧ F.length = n ∧ i = .int .i64 k ∧ Hid (RowR wr g0 rest F) ∧ Hid (Laid wr g0 l F k) ∧ Hid (Below w.heap.size w wr)) (fun i _ => n - (intOf i).toNat)
  case atStart => exact ⟨0, _, by omega, List.length_replicate, rfl, HR1, Lib.hid (fun i x hi => by omega), HB1⟩
  case round =>
    obtain ⟨k, F, hk, hF, rfl, HR, HLD, HB⟩ := hrel
    have HFN := Lib.hid hF
    clear hF
    have hsz := HB.out.size
    by_cases hlt : k < n
    · obtain ⟨p', cap', hpe, hcc⟩ := HV.out.below HB.out
      have hkl : k < l.length := by rw [HN.out]; exact hlt
      obtain ⟨g, o, hqe, hg, hx, hy⟩ := hcc k l[k] (getF hkl)
      simp only [Value.slice.injEq] at hpe
      obtain ⟨rfl, -, rfl⟩ := hpe
      subst hqe
      have i1 : (k : Int) < (n : Int) := by omega
      have HAT := Lib.hid (getF hkl)
      have HUK := Lib.hid (fun W => HU.out _ (List.getElem_mem hkl) W)
      have HKY := Lib.hid (show unL (U.runesZ l[k].1.data.toList) = keyU l[k] from rfl)
      have HCN := Lib.hid (show (unL (U.runesZ l[k].1.data.toList)).length ≤ 140737488355328 by
        have h1 := un_len (U.runesZ l[k].1.data.toList)
        have h2 := (U.runes_count l[k].1.data.toList).1
        rw [len_list] at h2
        have h3 := HK.out _ (List.getElem_mem hkl)
        omega)
      clear hcc
      generalize l[k] = f at *
      obtain ⟨a, b⟩ := f
      have hx3 : wr.cell? ⟨g, o + k * 2, none⟩ = some (.string a) := hx
      have hy3 : wr.cell? ⟨g, o + k * 2 + 1, none⟩ = some (.string b) := hy
      clear hx hy
      have HX0 := Lib.hid (show Below wr.heap.size wr (wr.alloc (.cells #[.string a, .string b] 38)) from bnew _ _)
      have HF0 := Lib.hid (show Has (wr.alloc (.cells #[.string a, .string b] 38)) wr.heap.size (.cells #[.string a, .string b] 38) from Has.new _ _)
      have HGL := Lib.hid (show g0 < wr.heap.size from Has.lt HR.out)
      have HRX := Lib.hid (HR.out.to HX0.out)
      have HLX := Lib.hid (HLD.out.to HX0.out)
      have HBX := Lib.hid (HB.out.trans (HX0.out.mono hsz))
      have hkf : k < F.length := by rw [HFN.out]; exact hlt
      obtain ⟨rr, hrr⟩ : ∃ rr, F[k]? = some rr := ⟨_, List.getElem?_eq_getElem hkf⟩
      have HRR := Lib.hid hrr
      clear hrr
      go_upto_region 5 with fail
      generalize wr.alloc (.cells #[.string a, .string b] 38) = X0 at *
      have q0 := HF0.out.cell 0 rfl
      have q1 := HF0.out.cell 1 rfl
      have hfb := HF0.out.lt
      have hxs := HBX.out.size
      have i0' : (0 : Int) ≤ (k : Int) := by omega
      clear HR HLD HX0 HF0
      generalize wr.heap.size = fb at *
      have HNE := Lib.hid (show fb ≠ g0 by have := HGL.out; omega)
      go_region_held3 (fun w' => w'.cell? ⟨fb, 0, none⟩ = some (.string a) ∧ w'.cell? ⟨fb, 1, none⟩ = some (.string b)) (first | go_keep | exact ⟨(other3 HNE.out _ _ _ _ _ _).trans q3', (other3 HNE.out _ _ _ _ _ _).trans q4'⟩)
        (first
          | (go_at_call 38; refine (HUK.out _).mono ?_; rintro e w3 ⟨⟨v3, rfl, ho3⟩, hb3⟩; obtain ⟨q3, c3, rfl⟩ := own_slice_any ho3; have HX3 := Lib.hid (show Below X0.heap.size X0 w3 from (Below.refl _ X0).drew.trans hb3); have q3' := (HX3.out.cell (p := ⟨fb, 0, none⟩) hfb).trans q0; have q4' := (HX3.out.cell (p := ⟨fb, 1, none⟩) hfb).trans q1; have HR3 := Lib.hid (HRX.out.to HX3.out); have r0 := HR3.out.c0 HRR.out; have r1 := HR3.out.c1 HRR.out; have r2 := HR3.out.c2 HRR.out; have f0 := HR3.out.f (k * 3); have f1 := HR3.out.f (k * 3 + 1); have f2 := HR3.out.f (k * 3 + 2); have HO3 := Lib.hid ho3; clear ho3 hb3)
          | fail)
      have hnew := RwOk.new (x := (a, b)) (g := g0) HO3.out (by have := HX3.out.size; have := HGL.out; show g0 < X0.heap.size; omega) HKY.out HCN.out
      have HNW := Lib.hid (HR3.out.store hkf ⟨(a, b), q3, (unL (U.runesZ a.data.toList)).length, c3, unL (U.runesZ a.data.toList)⟩)
      have HLN := Lib.hid ((HLX.out.to HX3.out).store hkf HAT.out hnew (k * 3) (k * 3 + 1) (k * 3 + 2) (.string a) (.string b) (.slice q3 (unL (U.runesZ a.data.toList)).length c3))
      have HBN := Lib.hid ((((HBX.out.trans (HX3.out.mono hxs)).setCell (p := ⟨g0, k * 3, none⟩) (by rw [HG0.out]; exact Nat.le_refl _) (.string a)).setCell (p := ⟨g0, k * 3 + 1, none⟩) (by rw [HG0.out]; exact Nat.le_refl _) (.string b)).setCell (p := ⟨g0, k * 3 + 2, none⟩) (by rw [HG0.out]; exact Nat.le_refl _) (.slice q3 (unL (U.runesZ a.data.toList)).length c3))
      clear hnew
      go_wp2
      go_roundw
      case rel => exact ⟨k + 1, F.set k ⟨(a, b), q3, (unL (U.runesZ a.data.toList)).length, c3, unL (U.runesZ a.data.toList)⟩, by omega, by rw [List.length_set]; exact HFN.out, by go_num, HNW, HLN, HBN⟩
      case measure => simp [intOf]; omega
    · have hkn : k = n := by omega
      subst hkn
      obtain ⟨D, hD1, hD2, hD3⟩ := laid_all (by rw [HN.out]; exact HLD.out) (by rw [HN.out]; exact HFN.out)
      have hDl : D.length = k := by rw [← HN.out, ← hD2, List.length_map]
      have HROW := Lib.hid (show Row wr g0 rest D from ⟨by rw [encs_rw, hD1]; exact HR.out, Ext.refl _ _⟩)
      have HDL := Lib.hid hDl
      have HP := Lib.hid (show (SM.S ltP D).map (fun x => (x.n, x.v)) = SM.S (fun a b => decide (cmpU (keyU a) (keyU b) < 0)) l from by
        rw [S_map (fun x : Pl wr g0 => x.l = keyU (x.n, x.v)) (fun x => (x.n, x.v)) ltP (fun a b => decide (cmpU (keyU a) (keyU b) < 0)) (fun a b ha hb => by unfold ltP; rw [ha, hb]) D hD3, hD2])
      have HSL := Lib.hid (show (SM.S ltP D).length = k from by rw [SM.S_length, hDl])
      have HPM := Lib.hid (show ∀ x ∈ SM.S (fun a b => decide (cmpU (keyU a) (keyU b) < 0)) l, x ∈ l from fun x hx => by
        rw [← HP.out] at hx
        obtain ⟨y, hy, rfl⟩ := List.mem_map.1 hx
        rw [← hD2]
        exact List.mem_map.2 ⟨y, ((SM.S_perm ltP D).mem_iff).1 hy, rfl⟩)
      rw [HPP.out] at HP HPM
      have hPl : P.length = k := by rw [← HP.out, List.length_map, HSL.out]
      have HPL := Lib.hid hPl
      have HFP := Lib.hid (show Fit P from fun x hx => hf x (HPM.out x hx))
      clear hPl hD1 hD2 hD3 hDl HPM HR HLD hf
      have hcm : k ≤ 35184372088320 := by omega
      go_wp2_with fail
      refine (sortStable g0 rest k k D wr g0 (Nat.le_refl _) HROW.out HDL.out hcm).mono ?_
      rintro e w2 ⟨rfl, hR2, hB2⟩
      have HB2 := Lib.hid (show Below w.heap.size w w2 from HB.out.trans (by rw [HG0.out]; exact hB2))
      obtain ⟨E, hE⟩ : ∃ E, (SM.S ltP D).map Pl.rw = E := ⟨_, rfl⟩
      have HR2 := Lib.hid (show RowR w2 g0 rest E from by rw [← hE]; unfold RowR; rw [← encs_rw]; exact hR2.1)
      have HEP := Lib.hid (show E.map (·.x) = P by rw [← HP.out, ← hE, List.map_map]; rfl)
      have hEl : E.length = k := by rw [← hE, List.length_map, HSL.out]
      have HEL := Lib.hid hEl
      clear hR2 hB2 hE hEl HROW HP HSL HDL
      have hs2 := HB2.out.size
      go_wp2_with (at_make; refine wpList_make_full _ rfl (.tmp 31) (.tmp 31) 22 rfl w2.heap.size 38 j0 _ 2 Tryd.underlying22 hj hy0 hy1 _ _ _ _ k rfl rfl rfl rfl (by rw [hy2]; omega) (by unfold maxLen; omega) (Nat.le_refl _) ?_; intro w3 hown3 hgrow3; have HO3 := Lib.hid hown3; have HB3 := Lib.hid (show Below w2.heap.size w2 w3 from (Below.refl _ _).grown hgrow3 (Nat.le_refl _) (fun k hk => by cases hk)); clear hown3 hgrow3)
      rw [made_fds] at HO3
      have ho3 : OwnF w3 w2.heap.size (.slice (some ⟨w2.heap.size, 0, none⟩) k k) (List.replicate k (⟨#[]⟩, ⟨#[]⟩)) := by
        unfold OwnF
        rw [List.length_replicate]
        exact HO3.out
      have HR3 := Lib.hid (HR2.out.to HB3.out)
      have HB3w := Lib.hid (HB2.out.trans (HB3.out.mono hs2))
      have hg0w2 : g0 < w2.heap.size := Has.lt HR2.out
      obtain ⟨restF, hrowF, hcapF⟩ : ∃ restF, (k = 0 ∨ RowF w3 w2.heap.size restF (List.replicate k (⟨#[]⟩, ⟨#[]⟩))) ∧ (k = 0 ∨ (encFs (List.replicate k ((⟨#[]⟩, ⟨#[]⟩) : Fd)) ++ restF).length = k * 2) := by
        by_cases h0 : k = 0
        · exact ⟨[], .inl h0, .inl h0⟩
        · obtain ⟨g, restF, hq, _, _, hr, _, _, hl⟩ := ho3.row (by rw [List.length_replicate]; omega)
          simp only [Option.some.injEq, Addr.mk.injEq, and_true] at hq
          subst hq
          exact ⟨restF, .inr hr, .inr hl⟩
      obtain ⟨g1, hg1⟩ : ∃ g1, w2.heap.size = g1 := ⟨_, rfl⟩
      have HG1 := Lib.hid hg1
      rw [hg1] at hrowF hg0w2 hs2 ⊢
      have HRF := Lib.hid hrowF
      have HCF := Lib.hid hcapF
      have HO3' := Lib.hid ho3
      clear hg1 hrowF hcapF ho3 HO3 HR2 hcm
      go_loopw [35] (fun i wr' => ∃ (k2 : Nat) (G : List Fd), k2 ≤ k ∧ G.length = k ∧ i = .int .i64 k2 ∧ Hid (k = 0 ∨ RowF wr' g1 restF G) ∧ Hid (k = 0 → OwnF wr' g1 (.slice (some ⟨g1, 0, none⟩) k k) []) ∧ Hid (∀ i x, i < k2 → P[i]? = some x → G[i]? = some x) ∧ Hid (RowR wr' g0 rest E) ∧ Hid (Below w.heap.size w wr')) (fun i _ => k - (intOf i).toNat)
      case atStart => exact ⟨0, _, by omega, List.length_replicate, rfl, HRF, Lib.hid (fun h => by subst h; have := HO3'.out; rw [HG1.out] at this; exact this), Lib.hid (fun i x hi => by omega), HR3, HB3w⟩
      case round =>
        obtain ⟨k2, G, hk2, hG, rfl, HGF, HG0', HGP, HRE, HBL⟩ := hrel
        have HGL := Lib.hid hG
        clear hG
        have hsl := HBL.out.size
        by_cases hlt2 : k2 < k
        · have hrf : RowF wr g1 restF G := by
            rcases HGF.out with h | h
            · omega
            · exact h
          have hkE : k2 < E.length := by rw [HEL.out]; exact hlt2
          obtain ⟨r, hr⟩ : ∃ r, E[k2]? = some r := ⟨_, List.getElem?_eq_getElem hkE⟩
          have HPR := Lib.hid (show P[k2]? = some r.x by rw [← HEP.out, List.getElem?_map, hr]; rfl)
          have hkG : k2 < G.length := by rw [HGL.out]; exact hlt2
          obtain ⟨y, hy⟩ : ∃ y, G[k2]? = some y := ⟨_, getF hkG⟩
          have x0 := HRE.out.c0 hr
          have x1 := HRE.out.c1 hr
          have x2 := HRE.out.c2 hr
          have y0 := hrf.c0 hy
          have y1 := hrf.c1 hy
          have e0 := hrf.f (k2 * 2)
          have e1 := hrf.f (k2 * 2 + 1)
          have j1 : (k2 : Int) < (k : Int) := by omega
          have hne : g1 ≠ wr.heap.size := by have := hrf.lt; omega
          have HRF1 := Lib.hid (show RowF (((wr.setCell ⟨g1, k2 * 2, none⟩ (.string r.x.1)).setCell ⟨g1, k2 * 2 + 1, none⟩ (.string r.x.2)).alloc (.cells #[.string r.x.1, .string r.x.2, .slice r.q r.m r.c] 67)) g1 restF (G.set k2 r.x) from (hrf.store hkG r.x).to (bnew _ _))
          have HRE1 := Lib.hid (show RowR (((wr.setCell ⟨g1, k2 * 2, none⟩ (.string r.x.1)).setCell ⟨g1, k2 * 2 + 1, none⟩ (.string r.x.2)).alloc (.cells #[.string r.x.1, .string r.x.2, .slice r.q r.m r.c] 67)) g0 rest E from Has.alloc (Has.far (Has.far HRE.out (by show g0 ≠ g1; omega) _) (by show g0 ≠ g1; omega) _) _)
          have HBL1 := Lib.hid (show Below w.heap.size w (((wr.setCell ⟨g1, k2 * 2, none⟩ (.string r.x.1)).setCell ⟨g1, k2 * 2 + 1, none⟩ (.string r.x.2)).alloc (.cells #[.string r.x.1, .string r.x.2, .slice r.q r.m r.c] 67)) from ((HBL.out.setCell (p := ⟨g1, k2 * 2, none⟩) (by show w.heap.size ≤ g1; omega) _).setCell (p := ⟨g1, k2 * 2 + 1, none⟩) (by show w.heap.size ≤ g1; omega) _).alloc (by simp; omega) _)
          have hfb := hrf.lt
          clear hrf hr hy
          have HGP1 := Lib.hid (show ∀ i x, i < k2 + 1 → P[i]? = some x → (G.set k2 r.x)[i]? = some x from fun i x hi hx => by
            by_cases hik : i = k2
            · subst hik
              rw [HPR.out] at hx
              cases hx
              simp [hkG]
            · rw [List.getElem?_set_ne (by omega)]
              exact HGP.out i x (by omega) hx)
          go_wp2
          go_roundw
          case rel => exact ⟨k2 + 1, G.set k2 r.x, by omega, by rw [List.length_set]; exact HGL.out, by go_num, Lib.hid (.inr HRF1.out), Lib.hid (fun h => by omega), HGP1, HRE1, HBL1⟩
          case measure => simp [intOf]; omega
        · have hkk : k2 = k := by omega
          subst hkk
          have hGP : G = P := by
            apply List.ext_getElem?
            intro i
            by_cases hi : i < k2
            · have hiP : i < P.length := by rw [HPL.out]; exact hi
              rw [HGP.out i P[i] hi (List.getElem?_eq_getElem hiP), List.getElem?_eq_getElem hiP]
            · rw [List.getElem?_eq_none (by rw [HGL.out]; omega), List.getElem?_eq_none (by rw [HPL.out]; omega)]
          subst hGP
          have HOF := Lib.hid (show OwnF wr w.heap.size (.slice (some ⟨g1, 0, none⟩) k2 k2) G from by
            rcases HGF.out with h0 | hrf
            · have hge : G = [] := List.eq_nil_of_length_eq_zero (by rw [HGL.out]; exact h0)
              rw [hge]
              have h1 := HG0'.out h0
              exact ⟨h1.1, h1.2.imp id (fun ⟨g, cap, cur, a1, a2, a3⟩ => ⟨g, cap, cur, a1, by omega, a3⟩)⟩
            · rcases HCF.out with h0 | hc
              · have hge : G = [] := List.eq_nil_of_length_eq_zero (by rw [HGL.out]; exact h0)
                rw [hge]
                have h1 := HG0'.out h0
                exact ⟨h1.1, h1.2.imp id (fun ⟨g, cap, cur, a1, a2, a3⟩ => ⟨g, cap, cur, a1, by omega, a3⟩)⟩
              · have := hrf.own (B := w.heap.size) (k := k2) (cap := k2) hs2 (by rw [HGL.out]; exact Nat.le_refl _) (by rw [HGL.out]; exact Nat.le_refl _) (by unfold maxLen; omega) (by
                  rw [List.length_append, Ks.encFs_len, List.length_replicate] at hc
                  rw [List.length_append, Ks.encFs_len, HGL.out]; exact hc)
                rw [List.take_of_length_le (by rw [HGL.out]; exact Nat.le_refl _)] at this
                exact this)
          have HFR := Lib.hid (fresh_n w.heap.size (some ⟨g1, 0, none⟩) k2 k2 G HGL.out HFP.out (by omega) wr HOF.out HBL.out.size)
          clear HOF HGF HG0' HGP HRE
          go_wp2_with fail
          refine HFR.out.mono ?_
          rintro e w5 ⟨⟨rfl, ho5⟩, hb5⟩
          have HO5 := Lib.hid ho5
          have HB5 := Lib.hid (HBL.out.trans hb5)
          clear ho5 hb5
          go_wp2
          go_ret
          exact ⟨⟨_, _, rfl, HO5.out⟩, HB5.out⟩
end Go.Proofs.YtnjnhgeafbofkaaDoor
