import Derived.Test.YthdodmbopchfdaaPD
import Derived.Deep.RegionLaw
namespace Go.Proofs.Ythdodmbopchfdaa
open Go.RowKit P
theorem digF_len : ∀ (f : Nat) (q k b : Int), (digF f q k b).length ≤ f + 1
  | 0, _, _, _ => by simp [digF]
  | f + 1, q, k, b => by
    rw [digF]
    split
    · simp
    · have := digF_len f ((q - thr k b) / (36 - thr k b)) (k + 36) b
      simp only [List.length_cons]; omega
theorem mapZ_snoc (o pre : List Int) (x y : Int) (h : digZ x = y) : o ++ (pre ++ [x]).map digZ = (o ++ pre.map digZ) ++ [y] := by
  rw [List.map_append, ← List.append_assoc, List.map_singleton, h]
theorem cell_drew (w : World) (a : Addr) : w.drew.cell? a = w.cell? a := rfl
theorem frozen_drew (w : World) (a : Addr) : w.drew.frozen? a = w.frozen? a := rfl
theorem ne_own {v : Value} {g : Nat} (h : v.ownBlock = none ∨ v.ownBlock ≠ some g) : some g ≠ v.ownBlock := by
  rcases h with h | h
  · rw [h]; simp
  · exact fun e => h e.symm
attribute [local go_sem ↓] Go.wp_at_zero Go.wp_at_succ
set_option maxRecDepth 100000 in
set_option maxHeartbeats 4000000 in
theorem number_is (B g : Nat) (o : List Int) (n d b h p q : Int) (D : List Int) (hD : digs q b = D) (hq0 : 0 ≤ q) (hq1 : q ≤ 2147483647) (hb0 : 0 ≤ b) (hb1 : b ≤ 10000000000) (ho : o.length ≤ 70368744177664) (w : World) (hBw : B ≤ w.heap.size) (hW : Wr B g o n d b h p w) :
    Calls Try.prog 40 #[.pointer (some ⟨g, 0, none⟩), .int .i64 q] w fun e w' => e = .returned (.tuple #[]) ∧ (Wr B g (o ++ D.map digZ) n d b h p w' ∧ Below B w w') := by
  obtain ⟨i0, hi, hz0, hz1, hz2⟩ := info_parts infoByte0
  have HD : Hid (digF q.toNat q 36 b = D) := Lib.hid hD
  have HW := Lib.hid hW
  clear hD hW
  go_enter Try.func40, Try.ntmps40
  go_wp2_with fail
  go_loopw [1, 4] (fun x k wr => ∃ (fu : Nat) (y z : Int) (pre : List Int), x = .int .i64 y ∧ k = .int .i64 z ∧ 0 ≤ y ∧ y ≤ fu ∧ fu + pre.length ≤ 2147483647 ∧ 36 ≤ z ∧ z ≤ 36 * (pre.length + 1) ∧ Hid (pre ++ digF fu y z b = D) ∧ Hid (Wr B g (o ++ pre.map digZ) n d b h p wr) ∧ Below B w wr) (fun x _ _ => (intOf x).toNat)
  case atStart => exact ⟨q.toNat, q, 36, [], rfl, rfl, hq0, by omega, by simp; omega, by omega, by simp, by simpa using HD, by simpa using HW, Below.refl _ _⟩
  case round =>
    clear HW HD
    obtain ⟨fu, y, z, pre, rfl, rfl, hy0, hy1, hfp, hz36, hzp, HP, HWr, hbel⟩ := hrel
    obtain ⟨t, ht⟩ : ∃ t, thr z b = t := ⟨_, rfl⟩
    have htb := thr_bd z b
    rw [ht] at htb
    have HT := Lib.hid ht
    have hsz := hbel.size
    obtain ⟨w0, rfl⟩ : ∃ w0 : World, w0 = wr := ⟨_, rfl⟩
    have HW2 := HWr
    obtain ⟨l, hl⟩ : ∃ l, o ++ pre.map digZ = l := ⟨_, rfl⟩
    have HL := Lib.hid hl
    rw [hl] at HW2
    have hlen : l.length ≤ 70368744177664 + 2147483647 := by rw [← hl, List.length_append, List.length_map]; omega
    clear hl
    obtain ⟨hBg, v, hG, hO⟩ := HW2.out
    obtain ⟨pv, cv, rfl⟩ := hO.form
    have c0 : w0.cell? ⟨g, 0, none⟩ = some (.slice pv l.length cv) := hG.cell 0 rfl
    have c3 : w0.cell? ⟨g, 3, none⟩ = some (.int .i64 b) := hG.cell 3 rfl
    have fz0 := hG.free 0
    have hgl := hG.lt
    have hone : l.length + 1 ≤ maxLen := by unfold maxLen; omega
    clear ht HWr HW2
    by_cases hlt : y < t
    · have HE : Hid (pre ++ [y] = D) := Lib.hid (by rw [← HP.out, digF_end (by rw [HT.out]; exact hlt)])
      obtain ⟨c, hc⟩ : ∃ c, digZ y = c := ⟨_, rfl⟩
      have HE2 : Hid (o ++ D.map digZ = l ++ [c]) := Lib.hid (by rw [← HE.out, mapZ_snoc o pre y c hc, HL.out])
      have HC := Lib.hid hc
      have hax := Has.alloc hG (.cells #[.int .u8 c] 5)
      have hne := own_ne (hO.alloc (.cells #[.int .u8 c] 5)) hax (by decide)
      have hne2 := ne_own hne
      have fz0d : (w0.alloc (.cells #[.int .u8 c] 5)).drew.frozen? ⟨g, 0, none⟩ = false := (frozen_drew _ _).trans (hax.free 0)
      have c0d : (w0.alloc (.cells #[.int .u8 c] 5)).drew.cell? ⟨g, 0, none⟩ = some (.slice pv l.length cv) := (cell_drew _ _).trans (hax.cell 0 rfl)
      have hO2 := (hO.alloc (.cells #[.int .u8 c] 5)).drew
      have HBx := Lib.hid ((hbel.alloc (by omega) (.cells #[.int .u8 c] 5)).drew)
      clear hc
      go_wp2_with (first | (go_at_call 43; refine (thr_is z b t HT.out (by omega) (by omega) hb0 (by omega) _).mono ?_; rintro e w' ⟨rfl, rfl⟩) | fail)
      go_region_law
        ((first | (refine step_append_lies _ (by rfl) _ _ _ (by rfl) B 5 i0 _ 1 1 Try.underlying35 hi hz0 hz1 hz2 rfl (by omega) (.slice pv l.length cv) l.length (l.map (Value.int .u8)) (by rfl) hO2 ⟨w0.heap.size, 0, none⟩ 1 1 [.int .u8 c] (by rfl) (by rfl) (World.news_of_block (cs := #[.int .u8 c]) (t := 5) (fr := (0, 0)) (heap_alloc_new w0 _)) (one8 c) (by omega) hone (by omega) (by simp; omega) (w0.heap.size + 1) (by simp) ?_; intro gg cap w1 hown1 hgrow hat hlt2; have fzx := (hgrow.frozen_far ⟨g, 0, none⟩ (by simp; omega) hne2).trans fz0d; have cx := (hgrow.cell_far ⟨g, 0, none⟩ (by simp; omega) hne2).trans c0d) | (go_simp; refine (digit_is y c HC.out hy0 (by omega) _).mono ?_; rintro e w' ⟨rfl, rfl⟩)))
      all_goals
        have HG1 := has_past (w := (w0.alloc (.cells #[.int .u8 c] 5)).drew) (v := .slice pv l.length cv) hax hgrow hne
        have HO1 : OwnB w1 B (.slice (some ⟨gg, 0, none⟩) (l.length + 1) cap) (l ++ [c]) := ownb_snoc hown1
        have HB1 : Below B w w1 := HBx.out.grown hgrow (by simp; omega) (fun k hk => (hO2.lt k hk).1)
        have HG2 := HG1.set 0 (.slice (some ⟨gg, 0, none⟩) (l.length + 1) cap)
        have HO2 := own_set HO1 HG1 (by decide) 0 (.slice (some ⟨gg, 0, none⟩) (l.length + 1) cap)
        have HB2 := HB1.setCell (p := ⟨g, 0, none⟩) hBg (.slice (some ⟨gg, 0, none⟩) (l.length + 1) cap)
        clear hown1 hgrow
        go_wp2
        refine bodyPost_ret (results_none rfl _ _ _) rfl ?_
        exact ⟨rfl, ⟨hBg, _, HG2, by rw [HE2.out]; exact HO2⟩, HB2⟩
    · have hnx := next_bd (q := y) (k := z) (b := b) (by rw [HT.out]; exact hlt)
      obtain ⟨fu, rfl⟩ : ∃ f, fu = f + 1 := ⟨fu - 1, by omega⟩
      have hdm := digF_more (f := fu) (q := y) (k := z) (b := b) (by rw [HT.out]; exact hlt)
      rw [HT.out] at hnx hdm
      obtain ⟨r, hr⟩ : ∃ r, (y - t) % (36 - t) = r := ⟨_, rfl⟩
      obtain ⟨q2, hq2⟩ : ∃ q, (y - t) / (36 - t) = q := ⟨_, rfl⟩
      rw [hr, hq2] at hnx hdm
      obtain ⟨c, hc⟩ : ∃ c, digZ (t + r) = c := ⟨_, rfl⟩
      have HE : Hid ((pre ++ [t + r]) ++ digF fu q2 (z + 36) b = D) := Lib.hid (by rw [← HP.out, hdm]; simp)
      have HE2 : Hid (o ++ (pre ++ [t + r]).map digZ = l ++ [c]) := Lib.hid (by rw [mapZ_snoc o pre (t + r) c hc, HL.out])
      have HR := Lib.hid (show (y - t).tmod (36 - t) = r by rw [← hr, Int.tmod_eq_emod_of_nonneg (by omega)])
      have HQ := Lib.hid hq2
      have k1 : IntKind.i64.wrap (y - t) = y - t := IntWalk.i64_in _ (by omega)
      have k2 : IntKind.i64.wrap (36 - t) = 36 - t := IntWalk.i64_in _ (by omega)
      have k3 : IntKind.i64.wrap (t + r) = t + r := IntWalk.i64_in _ (by omega)
      have K1 := Lib.hid k1
      have K2 := Lib.hid k2
      have K3 := Lib.hid k3
      clear k1 k2 k3 hdm hr hq2
      have HC := Lib.hid hc
      have hax := Has.alloc hG (.cells #[.int .u8 c] 5)
      have hne := own_ne (hO.alloc (.cells #[.int .u8 c] 5)) hax (by decide)
      have hne2 := ne_own hne
      have fz0d : (w0.alloc (.cells #[.int .u8 c] 5)).drew.frozen? ⟨g, 0, none⟩ = false := (frozen_drew _ _).trans (hax.free 0)
      have c0d : (w0.alloc (.cells #[.int .u8 c] 5)).drew.cell? ⟨g, 0, none⟩ = some (.slice pv l.length cv) := (cell_drew _ _).trans (hax.cell 0 rfl)
      have hO2 := (hO.alloc (.cells #[.int .u8 c] 5)).drew
      have HBx := Lib.hid ((hbel.alloc (by omega) (.cells #[.int .u8 c] 5)).drew)
      clear hc
      go_wp2_with (first | (go_at_call 43; refine (thr_is z b t HT.out (by omega) (by omega) hb0 (by omega) _).mono ?_; rintro e w' ⟨rfl, rfl⟩) | fail)
      have k1 := K1.out
      have k2 := K2.out
      have k3 := K3.out
      have k4 := HR.out
      have k5 : IntKind.i64.wrap r = r := IntWalk.i64_in _ (by omega)
      have k6 : ¬ (36 - t = 0) := by omega
      have k7 : ¬ (36 = t) := by omega
      have k8 : ((36 - t) == 0) = false := by rw [beq_eq_false_iff_ne]; omega
      go_region_law
        ((first | (refine step_append_lies _ (by rfl) _ _ _ (by rfl) B 5 i0 _ 1 1 Try.underlying35 hi hz0 hz1 hz2 rfl (by omega) (.slice pv l.length cv) l.length (l.map (Value.int .u8)) (by rfl) hO2 ⟨w0.heap.size, 0, none⟩ 1 1 [.int .u8 c] (by rfl) (by rfl) (World.news_of_block (cs := #[.int .u8 c]) (t := 5) (fr := (0, 0)) (heap_alloc_new w0 _)) (one8 c) (by omega) hone (by omega) (by simp; omega) (w0.heap.size + 1) (by simp) ?_; intro gg cap w1 hown1 hgrow hat hlt2; have fzx := (hgrow.frozen_far ⟨g, 0, none⟩ (by simp; omega) hne2).trans fz0d; have cx := (hgrow.cell_far ⟨g, 0, none⟩ (by simp; omega) hne2).trans c0d) | (go_simp; refine (digit_is (t + r) c HC.out (by omega) (by omega) _).mono ?_; rintro e w' ⟨rfl, rfl⟩)))
      all_goals
        have HG1 := has_past (w := (w0.alloc (.cells #[.int .u8 c] 5)).drew) (v := .slice pv l.length cv) hax hgrow hne
        have HO1 : OwnB w1 B (.slice (some ⟨gg, 0, none⟩) (l.length + 1) cap) (l ++ [c]) := ownb_snoc hown1
        have HB1 : Below B w w1 := HBx.out.grown hgrow (by simp; omega) (fun k hk => (hO2.lt k hk).1)
        have HG2 := HG1.set 0 (.slice (some ⟨gg, 0, none⟩) (l.length + 1) cap)
        have HO2 := own_set HO1 HG1 (by decide) 0 (.slice (some ⟨gg, 0, none⟩) (l.length + 1) cap)
        have HB2 := HB1.setCell (p := ⟨g, 0, none⟩) hBg (.slice (some ⟨gg, 0, none⟩) (l.length + 1) cap)
        clear hown1 hgrow k1 k2 k3 k4 k5 k6 k7 k8
        go_wp2
        go_roundw
        case rel =>
          rw [HQ.out]
          exact ⟨fu, q2, z + 36, pre ++ [t + r], rfl, rfl, hnx.1, by omega, by simp; omega, by omega, by simp; omega, HE, Lib.hid ⟨hBg, _, HG2, by rw [HE2.out]; exact HO2⟩, HB2⟩
        case measure => rw [HQ.out]; simp [intOf]; omega
end Go.Proofs.Ythdodmbopchfdaa
