/-
  The walk of bastionlaw11.QuerySorted, within the bulk: it answers true, and changes nothing that was there.
-/
import Derived.Test.YtnjnhgeafbofkaaDoorHScM
import Derived.Test.YtnjnhgeafbofkaaDoorWPM
import Derived.Maps.AppendAt
namespace Go.Proofs.YtnjnhgeafbofkaaDoor
open Go.RowKit
structure Two (w : World) (B : Nat) (vx : Value) (X : List Fd) (vy : Value) (Y : List Fd) : Prop where
  x : OwnF w B vx X
  y : OwnF w B vy Y
  ne : ∀ g, vx.ownBlock = some g → vy.ownBlock ≠ some g
section
variable {w w' : World} {B : Nat} {vx vy v' : Value} {X Y X' : List Fd}
theorem Two.swap (h : Two w B vx X vy Y) : Two w B vy Y vx X := ⟨h.y, h.x, fun g h1 h2 => h.ne g h2 h1⟩
theorem Two.alloc (h : Two w B vx X vy Y) (o : Obj) : Two (w.alloc o) B vx X vy Y := ⟨World.ownsRow.alloc h.x o, World.ownsRow.alloc h.y o, h.ne⟩
theorem Two.grow (h : Two w B vx X vy Y) (ho : OwnF w' B v' X') (hg : w.grownBy w' vx.ownBlock) (hd : v'.ownBlock = vx.ownBlock ∨ v'.ownBlock = some w.heap.size) : Two w' B v' X' vy Y := by
  refine ⟨ho, h.y.kept hg ?_, fun g h1 h2 => ?_⟩
  · cases hv : vy.ownBlock with
    | none => exact .inl rfl
    | some g => exact .inr (fun e => h.ne g e.symm hv)
  · rcases hd with hd | hd
    · rw [hd] at h1; exact h.ne g h1 h2
    · rw [hd] at h1
      cases h1
      have := (h.y.lt _ h2).2
      omega
end
abbrev OwnS (w : World) (B : Nat) (v : Value) (ns : List ByteArray) : Prop := w.ownsRow B 9 1 v ns.length (ns.map Value.string)
theorem infoStr : (Tryd.prog.info? 9).map (fun i => (i.zero, i.size, i.bytes)) = some (some (.string ⟨#[]⟩), 1, 16) := by kernel_rfl
theorem fil_snoc (nm : ByteArray) (l : List Fd) (k : Nat) (h : k < l.length) : (l.take (k + 1)).filter (isN nm) = (l.take k).filter (isN nm) ++ (if isN nm l[k] then [l[k]] else []) := by
  rw [List.take_succ_eq_append_getElem h, List.filter_append]
  cases hx : isN nm l[k] <;> simp [hx]
theorem pair_cells (w : World) (x : Fd) : ∀ j u, (encFs [x])[j]? = some u → (w.alloc (.cells #[.string x.1, .string x.2] 38)).cell? ((⟨w.heap.size, 0, none⟩ : Addr).add j) = some u := fun j u hj => by
  rw [Addr.add_lit, cell_of_row _ _ _ _ _ _ (heap_alloc_new _ _), Nat.zero_add, List.getElem?_toArray]; exact hj
set_option maxHeartbeats 8000000 in
set_option maxRecDepth 100000 in
theorem QuerySorted_walk (p : Option Addr) (l : List Fd) (cap : Nat) (hcap : l.length ≤ cap) (hl : l.length ≤ 1048576) (hfl : ∀ x ∈ l, x.1.size ≤ 1048576 ∧ x.2.size ≤ 1048576) (nm : ByteArray) (w : World) (hv : Lst w (.slice p l.length cap) l) (hM : ML w) :
    Calls Tryd.prog 7 #[.slice p l.length cap, .string nm] w fun e w' => e = .returned (.bool true) ∧ Below w.heap.size w w' := by
  obtain ⟨i0, hi, hz0, hz1, hz2⟩ := info_parts Ks.infoField
  obtain ⟨j0, hj, hy0, hy1, hy2⟩ := info_parts infoStr
  have HM := Lib.hid hM
  have HV := Lib.hid hv
  have HFL := Lib.hid hfl
  obtain ⟨A, hA⟩ : ∃ A, sortF l = A := ⟨_, rfl⟩
  have HAL := Lib.hid (show A.length = l.length from hA ▸ sortF_len l)
  have HAA := Lib.hid (show sortF A = A from hA ▸ sortF_twice l)
  have HAN := Lib.hid (show ∀ n, A.filter (isN n) = l.filter (isN n) from fun n => hA ▸ sortF_name n l)
  have HAF := Lib.hid (show ∀ x ∈ A, x.1.size ≤ 1048576 ∧ x.2.size ≤ 1048576 from fun x hx => hfl x ((sortF_mem l x).1 (hA ▸ hx)))
  have HSA := Lib.hid (fun W hW => sort_is p cap l (by omega) (fun x hx => ⟨by have := (hfl x hx).1; omega, by have := (hfl x hx).2; omega⟩) (fun x hx => by have := (hfl x hx).1; omega) W hW)
  have HSB := Lib.hid (fun q c W hW => sort_is q c A (by rw [HAL.out]; omega) (fun x hx => ⟨by have := (HAF.out x hx).1; omega, by have := (HAF.out x hx).2; omega⟩) (fun x hx => by have := (HAF.out x hx).1; omega) W hW)
  have e1 : SM.S (fun a b => decide (cmpU (keyU a) (keyU b) < 0)) l = A := hA
  have e2 : SM.S (fun a b => decide (cmpU (keyU a) (keyU b) < 0)) A = A := HAA.out
  rw [e1] at HSA
  rw [e2] at HSB
  obtain ⟨n, hn⟩ : ∃ n, l.length = n := ⟨_, rfl⟩
  have HN := Lib.hid hn
  have HANL := Lib.hid (show A.length = n by rw [HAL.out, hn])
  rw [HAL.out] at HSB
  rw [hn] at HV HSA HSB hl ⊢
  clear hfl hv hM hA e1 e2 hn HAA HAL
  go_enter Tryd.func7, Tryd.ntmps7
  go_wp2_with fail
  refine (lives_is _ HM.out).mono ?_
  rintro e w1 ⟨rfl, hb1⟩
  have HB1 := Lib.hid hb1
  clear hb1
  go_wp2_with fail
  refine (HSA.out w1 (HV.out.below HB1.out)).mono ?_
  rintro e w2 ⟨⟨q2, c2, rfl, ho2⟩, hb2⟩
  have HB2 := Lib.hid (bel2 HB1.out hb2)
  have HO2 := Lib.hid ho2
  clear ho2 hb2
  have HL2 := Lib.hid (show Lst w2 (.slice q2 n c2) A from lst_own HO2.out)
  go_wp2_with fail
  refine (HSB.out q2 c2 w2 HL2.out).mono ?_
  rintro e w3 ⟨⟨q3, c3, rfl, ho3⟩, hb3⟩
  have HB3 := Lib.hid (bel2 HB2.out hb3)
  have HL3 := Lib.hid (HL2.out.below hb3)
  have HL3' := Lib.hid (show Lst w3 (.slice q3 n c3) A from lst_own ho3)
  clear ho3 hb3
  go_wp2_with fail
  refine (same_isP _ _ A A true (decide_eq_true rfl) (by rw [HANL.out]; omega) (by rw [HANL.out]; omega) w3 HL3'.out HL3.out).mono ?_
  rintro e w4 ⟨rfl, hb4⟩
  have HB4 := Lib.hid (bel2 HB3.out hb4)
  have HL4 := Lib.hid (HL3.out.below hb4)
  clear hb4
  have hs4 := HB4.out.size
  go_wp2_with fail
  go_loopw [6, 34] (fun s6 i wr => ∃ (k : Nat) (ns : List ByteArray), k ≤ n ∧ i = .int .i64 k ∧ ns.length ≤ k + 1 ∧ ns.length ≤ 21 ∧ Hid (OwnS wr w4.heap.size s6 ns) ∧ Hid (Below w4.heap.size w4 wr)) (fun _ i _ => n - (intOf i).toNat)
  case atStart => exact ⟨0, [nm], by omega, rfl, by simp, by simp, Lib.hid ⟨rfl, .inr ⟨w4.heap.size, 1, #[.string nm], rfl, Nat.le_refl _, heap_alloc_new w4 _, Nat.le_refl _, by decide, rfl, rfl⟩⟩, Lib.hid (bnew _ _)⟩
  case round =>
    obtain ⟨k, ns, hk, rfl, hns, hns2, HOS, HB⟩ := hrel
    have hsz := HB.out.size
    have HBW := Lib.hid (HB4.out.trans (HB.out.mono hs4))
    by_cases hlt : k < n
    · obtain ⟨p', cap', hpe, hcc⟩ := HV.out.below HBW.out
      have hkl : k < l.length := by rw [HN.out]; exact hlt
      obtain ⟨g, o, hqe, hg, hx, hy⟩ := hcc k l[k] (getF hkl)
      simp only [Value.slice.injEq] at hpe
      obtain ⟨rfl, -, rfl⟩ := hpe
      subst hqe
      have i1 : (k : Int) < (n : Int) := by omega
      clear hcc
      generalize l[k] = f at *
      obtain ⟨a, b⟩ := f
      have hx3 : wr.cell? ⟨g, o + k * 2, none⟩ = some (.string a) := hx
      have hy3 : wr.cell? ⟨g, o + k * 2 + 1, none⟩ = some (.string b) := hy
      clear hx hy
      by_cases h20 : k < 20
      · have i2 : (k : Int) < 20 := by omega
        go_wp2_with (at_builtin; refine wpList_append_own _ rfl (.tmp 41) (.tmp 44) 40 rfl w4.heap.size 9 j0 (.string ⟨#[]⟩) 1 16 Tryd.underlying40 hj hy0 hy1 hy2 rfl (by decide) _ _ _ rfl (World.ownsRow.alloc (World.ownsRow.alloc HOS.out _) _) ⟨wr.heap.size + 1, 0, none⟩ 1 1 [.string a] rfl rfl (fun j u hj => by rw [Addr.add_lit, show wr.heap.size + 1 = (wr.alloc (.cells #[.string a, .string b] 38)).heap.size by simp, cell_of_row _ _ _ _ _ _ (heap_alloc_new _ _), Nat.zero_add, List.getElem?_toArray]; exact hj) (fun u hu => by rw [List.mem_singleton.1 hu]; rfl) (by unfold maxLen; omega) (by omega) (by simp; omega) ?_; intro v5 w5 own5 grow5 _; have HO5 := Lib.hid (show OwnS w5 w4.heap.size v5 (ns ++ [a]) from by unfold OwnS; rw [List.length_append, List.map_append]; exact own5); have HB5 := Lib.hid (show Below w4.heap.size w4 w5 from ((HB.out.alloc hsz _).alloc (by simp; omega) _).grown grow5 (by simp; omega) (fun k hk => (HOS.out.lt k hk).1)); clear own5 grow5)
        go_roundw
        case rel => exact ⟨k + 1, ns ++ [a], by omega, by go_num, by simp; omega, by simp; omega, HO5, HB5⟩
        case measure => simp [intOf]; omega
      · have i2 : ¬ (k : Int) < 20 := by omega
        have HO5 := Lib.hid (show OwnS (wr.alloc (.cells #[.string a, .string b] 38)) w4.heap.size u6 ns from World.ownsRow.alloc HOS.out _)
        have HB5 := Lib.hid (show Below w4.heap.size w4 (wr.alloc (.cells #[.string a, .string b] 38)) from HB.out.alloc hsz _)
        go_wp2
        go_roundw
        case rel => exact ⟨k + 1, ns, by omega, by go_num, by omega, by omega, HO5, HB5⟩
        case measure => simp [intOf]; omega
    · obtain ⟨q6, c6, rfl⟩ := own_slice_any HOS.out
      obtain ⟨m, hm⟩ : ∃ m, ns.length = m := ⟨_, rfl⟩
      have HMN := Lib.hid hm
      rw [hm] at hns hns2 ⊢
      have HOM := Lib.hid (show wr.ownsRow w4.heap.size 9 1 (.slice q6 m c6) m (ns.map Value.string) from by have := HOS.out; unfold OwnS at this; rw [hm] at this; exact this)
      clear hm HOS hns
      go_wp2_with fail
      go_loopw [49] (fun i wr => ∃ (j : Nat), j ≤ m ∧ i = .int .i64 j ∧ Hid (wr.ownsRow w4.heap.size 9 1 (.slice q6 m c6) m (ns.map Value.string)) ∧ Hid (Below w4.heap.size w4 wr)) (fun i _ => m - (intOf i).toNat)
      case atStart => exact ⟨0, by omega, rfl, HOM, HB⟩
      case round =>
        obtain ⟨j, hj2, rfl, HOJ, HBJ⟩ := hrel
        have hszj := HBJ.out.size
        by_cases hjm : j < m
        · have hjl : j < ns.length := by rw [HMN.out]; exact hjm
          have i3 : (j : Int) < (m : Int) := by omega
          have HTJ := Lib.hid (show (ns.map Value.string)[j]? = some (.string ns[j]) by rw [List.getElem?_map, List.getElem?_eq_getElem hjl]; rfl)
          generalize ns[j] = t at *
          obtain ⟨g6, hq6, hc6⟩ : ∃ g6, q6 = some ⟨g6, 0, none⟩ ∧ wr.cell? ⟨g6, j, none⟩ = some (.string t) := by
            rcases HOJ.out.2 with ⟨_, h0⟩ | ⟨g6, cap6, cur, hv6, _, hg6, _⟩
            · omega
            · simp only [Value.slice.injEq] at hv6
              obtain ⟨rfl, -, -⟩ := hv6
              refine ⟨g6, rfl, ?_⟩
              have := HOJ.out.cells (g := g6) rfl j (.string t) HTJ.out
              rw [Addr.add_lit, Nat.zero_add] at this
              exact this
          subst hq6
          go_wp2_with fail
          go_loopw [11, 12, 55] (fun s11 s12 i wr' => ∃ (k : Nat), k ≤ n ∧ i = .int .i64 k ∧ Hid (Two wr' wr.heap.size s11 ((l.take k).filter (isN t)) s12 ((A.take k).filter (isN t))) ∧ Hid (Below wr.heap.size wr wr')) (fun _ _ i _ => n - (intOf i).toNat)
          case atStart => exact ⟨0, by omega, rfl, Lib.hid ⟨World.ownsRow_nil _ _ _ _, World.ownsRow_nil _ _ _ _, fun g h => by cases h⟩, Lib.hid (Below.refl _ _)⟩
          case round =>
            obtain ⟨k, hk, rfl, HT, HBK⟩ := hrel
            have HBW := Lib.hid (HB4.out.trans ((HBJ.out.trans (HBK.out.mono hszj)).mono hs4))
            have HLA := Lib.hid (HL4.out.below HBJ.out)
            have hbk := HBK.out.size
            by_cases hlt : k < n
            · obtain ⟨p', cap', hpe, hcc⟩ := HV.out.below HBW.out
              obtain ⟨p2, cap2, hpe2, hcc2⟩ := HLA.out
              have hkl : k < l.length := by rw [HN.out]; exact hlt
              have hkA : k < A.length := by rw [HANL.out]; exact hlt
              obtain ⟨g, o, hqe, hg, hx1, hx2⟩ := hcc k l[k] (getF hkl)
              obtain ⟨g2, o2, hqe2, hg2, hy1, hy2'⟩ := hcc2 k A[k] (getF hkA)
              simp only [Value.slice.injEq] at hpe hpe2
              obtain ⟨rfl, -, rfl⟩ := hpe
              obtain ⟨rfl, -, rfl⟩ := hpe2
              subst hqe
              subst hqe2
              have i4 : (k : Int) < (n : Int) := by omega
              have HFX := Lib.hid (fil_snoc t l k hkl)
              have HFY := Lib.hid (fil_snoc t A k hkA)
              have hlx : ((l.take k).filter (isN t)).length ≤ k := by
                have := List.length_filter_le (isN t) (l.take k)
                rw [List.length_take_of_le (by omega)] at this
                exact this
              have hly : ((A.take k).filter (isN t)).length ≤ k := by
                have := List.length_filter_le (isN t) (A.take k)
                rw [List.length_take_of_le (by omega)] at this
                exact this
              clear hcc hcc2
              generalize l[k] = x at *
              generalize A[k] = y at *
              obtain ⟨a1, b1⟩ := x
              obtain ⟨a2, b2⟩ := y
              have x0 : wr.cell? ⟨g, o + k * 2, none⟩ = some (.string a1) := hx1
              have x1 : wr.cell? ⟨g, o + k * 2 + 1, none⟩ = some (.string b1) := hx2
              have y0 : wr.cell? ⟨g2, o2 + k * 2, none⟩ = some (.string a2) := (HBK.out.cell (p := ⟨g2, o2 + k * 2, none⟩) hg2).trans hy1
              have y1 : wr.cell? ⟨g2, o2 + k * 2 + 1, none⟩ = some (.string b2) := (HBK.out.cell (p := ⟨g2, o2 + k * 2 + 1, none⟩) hg2).trans hy2'
              have HY1 := Lib.hid hy1
              have HY2 := Lib.hid hy2'
              clear hx1 hx2 hy1 hy2'
              cases hx : isN t (a1, b1) with
              | true =>
                have ex : (a1.toList == t.toList) = true := hx
                cases hy : isN t (a2, b2) with
                | true =>
                  have ey : (a2.toList == t.toList) = true := hy
                  have HSX := Lib.hid (show (l.take (k + 1)).filter (isN t) = (l.take k).filter (isN t) ++ [(a1, b1)] by rw [HFX.out, hx, if_pos rfl])
                  have HSY := Lib.hid (show (A.take (k + 1)).filter (isN t) = (A.take k).filter (isN t) ++ [(a2, b2)] by rw [HFY.out, hy, if_pos rfl])
                  generalize (l.take k).filter (isN t) = X at *
                  generalize (A.take k).filter (isN t) = Y at *
                  go_wp2_with (first
                    | (at_builtin; refine wpList_append_own_at _ rfl (.tmp 65) (.tmp 70) 22 rfl _ 38 i0 (.agg #[.string ⟨#[]⟩, .string ⟨#[]⟩]) 2 32 Tryd.underlying22 hi hz0 hz1 hz2 rfl (by decide) _ _ _ rfl (HT.out.alloc _).x ⟨wr.heap.size, 0, none⟩ 1 1 (encFs [(a1, b1)]) rfl rfl (pair_cells _ (a1, b1)) (encFs_one _) (by unfold maxLen; omega) (by omega) (by have := HBK.out.size; simp; omega) ?_; intro v5 w5 own5 grow5 _ ob5; have HT5 := Lib.hid ((HT.out.alloc _).grow (own_snoc1 own5) grow5 ob5); have HB5 := Lib.hid ((HBK.out.alloc HBK.out.size _).grown grow5 (by have := HBK.out.size; simp; omega) (fun k hk => (HT.out.x.lt k hk).1)); have y0' := (HB5.out.cell (p := ⟨g2, o2 + k * 2, none⟩) hg2).trans HY1.out; have y1' := (HB5.out.cell (p := ⟨g2, o2 + k * 2 + 1, none⟩) hg2).trans HY2.out; clear own5 grow5 ob5)
                    | (at_builtin; refine wpList_append_own_at _ rfl (.tmp 79) (.tmp 84) 22 rfl _ 38 i0 (.agg #[.string ⟨#[]⟩, .string ⟨#[]⟩]) 2 32 Tryd.underlying22 hi hz0 hz1 hz2 rfl (by decide) _ _ _ rfl (HT5.out.alloc _).y ⟨w5.heap.size, 0, none⟩ 1 1 (encFs [(a2, b2)]) rfl rfl (pair_cells _ (a2, b2)) (encFs_one _) (by unfold maxLen; omega) (by omega) (by have := HB5.out.size; simp; omega) ?_; intro v6 w6 own6 grow6 _ ob6; have HT6 := Lib.hid ((HT5.out.alloc _).swap.grow (own_snoc1 own6) grow6 ob6).swap; have HB6 := Lib.hid ((HB5.out.alloc HB5.out.size _).grown grow6 (by have := HB5.out.size; simp; omega) (fun k hk => (HT5.out.y.lt k hk).1)); clear own6 grow6 ob6))
                  go_roundw
                  case rel => exact ⟨k + 1, by omega, by go_num, Lib.hid (by rw [HSX.out, HSY.out]; exact HT6.out), HB6⟩
                  case measure => simp [intOf]; omega
                | false =>
                  have ey : (a2.toList == t.toList) = false := hy
                  have HSX := Lib.hid (show (l.take (k + 1)).filter (isN t) = (l.take k).filter (isN t) ++ [(a1, b1)] by rw [HFX.out, hx, if_pos rfl])
                  have HSY := Lib.hid (show (A.take (k + 1)).filter (isN t) = (A.take k).filter (isN t) by rw [HFY.out, hy]; simp)
                  generalize (l.take k).filter (isN t) = X at *
                  generalize (A.take k).filter (isN t) = Y at *
                  go_wp2_with (at_builtin; refine wpList_append_own_at _ rfl (.tmp 65) (.tmp 70) 22 rfl _ 38 i0 (.agg #[.string ⟨#[]⟩, .string ⟨#[]⟩]) 2 32 Tryd.underlying22 hi hz0 hz1 hz2 rfl (by decide) _ _ _ rfl (HT.out.alloc _).x ⟨wr.heap.size, 0, none⟩ 1 1 (encFs [(a1, b1)]) rfl rfl (pair_cells _ (a1, b1)) (encFs_one _) (by unfold maxLen; omega) (by omega) (by have := HBK.out.size; simp; omega) ?_; intro v5 w5 own5 grow5 _ ob5; have HT5 := Lib.hid ((HT.out.alloc _).grow (own_snoc1 own5) grow5 ob5); have HB5 := Lib.hid ((HBK.out.alloc HBK.out.size _).grown grow5 (by have := HBK.out.size; simp; omega) (fun k hk => (HT.out.x.lt k hk).1)); have y0' := (HB5.out.cell (p := ⟨g2, o2 + k * 2, none⟩) hg2).trans HY1.out; have y1' := (HB5.out.cell (p := ⟨g2, o2 + k * 2 + 1, none⟩) hg2).trans HY2.out; clear own5 grow5 ob5)
                  go_roundw
                  case rel => exact ⟨k + 1, by omega, by go_num, Lib.hid (by rw [HSX.out, HSY.out]; exact HT5.out), HB5⟩
                  case measure => simp [intOf]; omega
              | false =>
                have ex : (a1.toList == t.toList) = false := hx
                cases hy : isN t (a2, b2) with
                | true =>
                  have ey : (a2.toList == t.toList) = true := hy
                  have HSX := Lib.hid (show (l.take (k + 1)).filter (isN t) = (l.take k).filter (isN t) by rw [HFX.out, hx]; simp)
                  have HSY := Lib.hid (show (A.take (k + 1)).filter (isN t) = (A.take k).filter (isN t) ++ [(a2, b2)] by rw [HFY.out, hy, if_pos rfl])
                  generalize (l.take k).filter (isN t) = X at *
                  generalize (A.take k).filter (isN t) = Y at *
                  go_wp2_with (at_builtin; refine wpList_append_own_at _ rfl (.tmp 79) (.tmp 84) 22 rfl _ 38 i0 (.agg #[.string ⟨#[]⟩, .string ⟨#[]⟩]) 2 32 Tryd.underlying22 hi hz0 hz1 hz2 rfl (by decide) _ _ _ rfl (HT.out.alloc _).y ⟨wr.heap.size, 0, none⟩ 1 1 (encFs [(a2, b2)]) rfl rfl (pair_cells _ (a2, b2)) (encFs_one _) (by unfold maxLen; omega) (by omega) (by have := HBK.out.size; simp; omega) ?_; intro v6 w6 own6 grow6 _ ob6; have HT6 := Lib.hid ((HT.out.alloc _).swap.grow (own_snoc1 own6) grow6 ob6).swap; have HB6 := Lib.hid ((HBK.out.alloc HBK.out.size _).grown grow6 (by have := HBK.out.size; simp; omega) (fun k hk => (HT.out.y.lt k hk).1)); clear own6 grow6 ob6)
                  go_roundw
                  case rel => exact ⟨k + 1, by omega, by go_num, Lib.hid (by rw [HSX.out, HSY.out]; exact HT6.out), HB6⟩
                  case measure => simp [intOf]; omega
                | false =>
                  have ey : (a2.toList == t.toList) = false := hy
                  have HSX := Lib.hid (show (l.take (k + 1)).filter (isN t) = (l.take k).filter (isN t) by rw [HFX.out, hx]; simp)
                  have HSY := Lib.hid (show (A.take (k + 1)).filter (isN t) = (A.take k).filter (isN t) by rw [HFY.out, hy]; simp)
                  generalize (l.take k).filter (isN t) = X at *
                  generalize (A.take k).filter (isN t) = Y at *
                  go_wp2
                  go_roundw
                  case rel => exact ⟨k + 1, by omega, by go_num, Lib.hid (by rw [HSX.out, HSY.out]; exact HT.out), HBK⟩
                  case measure => simp [intOf]; omega
            · have hkn : k = n := by omega
              have HXX := HT.out
              rw [List.take_of_length_le (by rw [HN.out]; omega), List.take_of_length_le (by rw [HANL.out]; omega), HAN.out t] at HXX
              obtain ⟨X, hX⟩ : ∃ X, l.filter (isN t) = X := ⟨_, rfl⟩
              rw [hX] at HXX
              have HXL := Lib.hid (show X.length ≤ 140737488355328 by
                have := List.length_filter_le (isN t) l
                rw [hX, HN.out] at this
                omega)
              obtain ⟨qx, cx, hvx⟩ := own_slice_any HXX.x
              obtain ⟨qy, cy, hvy⟩ := own_slice_any HXX.y
              subst hvx
              subst hvy
              have HLX := Lib.hid (lst_own HXX.x)
              have HLY := Lib.hid (lst_own HXX.y)
              have HBX := Lib.hid (HBJ.out.trans (HBK.out.mono hszj))
              clear HXX HT hX
              go_wp2_with fail
              refine (same_isP _ _ X X true (decide_eq_true rfl) HXL.out HXL.out wr HLX.out HLY.out).mono ?_
              rintro e w7 ⟨rfl, hb7⟩
              have HO7 := Lib.hid (Ks.own_to (Ks.own_to HOJ.out HBK.out) hb7)
              have HB7 := Lib.hid (HBX.out.trans (hb7.mono HBX.out.size))
              clear hb7
              go_wp2
              go_roundw
              case rel => exact ⟨j + 1, by omega, by go_num, HO7, HB7⟩
              case measure => simp [intOf]; omega
        · go_wp2
          go_ret
          exact ⟨rfl, HB4.out.trans (HBJ.out.mono hs4)⟩
end Go.Proofs.YtnjnhgeafbofkaaDoor
