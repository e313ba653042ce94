import Derived.Test.YtbclodbneonipaaGreatSJM
import Derived.Test.YtbclodbneonipaaGreatTLM
import Derived.OwnWalk
namespace Go.Proofs.YtbclodbneonipaaGreat
open Go.RowKit N
theorem infoPl : (Tryz.prog.info? 55).map (fun i => (i.zero, i.size, i.bytes)) = some (some (.agg #[.int .i32 0, .int .i64 0, .int .u8 0]), 3, 24) := by kernel_rfl
theorem row_of_own {w : World} {B : Nat} {v : Value} {D : List Pl} (h : w.ownsRow B 55 3 v D.length (encs D)) (hne : 0 < D.length) : ∃ g cap rest, v = .slice (some ⟨g, 0, none⟩) D.length cap ∧ B ≤ g ∧ Row w g rest D := by
  rcases h.2 with ⟨_, h0⟩ | ⟨g, cap, cur, rfl, hB, hg, _, _, _, ht⟩
  · omega
  · refine ⟨g, cap, cur.toList.drop (D.length * 3), rfl, hB, ?_⟩
    unfold Row Has
    rw [hg, ← ht, List.take_append_drop]
theorem encPl_one (x : Pl) : ∀ u ∈ encPl x, u.oneCell' = true := by
  intro u hu
  simp only [encPl, List.mem_cons, List.not_mem_nil, or_false] at hu
  rcases hu with rfl | rfl | rfl <;> rfl
theorem lit_pl (w : World) (x : Pl) : ∀ j u, (encPl x)[j]? = some u → (w.alloc (.cells #[.int .i32 x.r, .int .i64 x.k, .int .u8 x.c] 55)).cell? ((⟨w.heap.size, 0, none⟩ : Addr).add j) = some u := by
  intro j u hj
  have e : (⟨w.heap.size, 0, none⟩ : Addr).add j = ⟨w.heap.size, j, none⟩ := by unfold Addr.add; split <;> simp_all
  rw [e, cell_of_row _ _ j _ _ _ (heap_alloc_new w _)]
  simpa [encPl] using hj
theorem own_pl {B : Nat} {v' : Value} {D : List Pl} {x : Pl} {w : World} (h : w.ownsRow B 55 3 v' (D.length + 1) (encs D ++ encPl x)) : w.ownsRow B 55 3 v' (D ++ [x]).length (encs (D ++ [x])) := by
  rw [List.length_append, encs_app]
  have : encs [x] = encPl x := by rw [encs_cons, encs_nil, List.append_nil]
  rw [this]
  exact h
theorem row_of_own2 {w : World} {B : Nat} {g0 n cap0 : Nat} {D : List Pl} (hl : D.length = n) (h : w.ownsRow B 55 3 (.slice (some ⟨g0, 0, none⟩) n cap0) D.length (encs D)) : ∃ rest, B ≤ g0 ∧ Row w g0 rest D := by
  rcases h.2 with ⟨h0, _⟩ | ⟨g, cap, cur, hv, hB, hg, _, _, _, ht⟩
  · cases h0
  · simp only [Value.slice.injEq, Option.some.injEq, Addr.mk.injEq, and_true] at hv
    obtain ⟨rfl, _, rfl⟩ := hv
    refine ⟨cur.toList.drop (D.length * 3), hB, ?_⟩
    unfold Row Has
    rw [hg, ← ht, List.take_append_drop]
theorem own_to {w w' : World} {B n size : Nat} {e : TypeId} {v : Value} {xs : List Value} (h : w.ownsRow B e size v n xs) (hb : Below w.heap.size w w') : w'.ownsRow B e size v n xs := by
  refine ⟨h.1, ?_⟩
  rcases h.2 with hn | ⟨g, cap, cur, rfl, hB, hg, rest⟩
  · exact .inl hn
  · exact .inr ⟨g, cap, cur, rfl, hB, (hb.block g (Array.getElem?_eq_some_iff.1 hg).1).trans hg, rest⟩
theorem Row.grown {w w' : World} {g : Nat} {rest : List Value} {D : List Pl} {row : Option Nat} (h : Row w g rest D) (hg : w.grownBy w' row) (hne : some g ≠ row) : Row w' g rest D := Has.grown h hg hne
theorem bel_own {B n size : Nat} {e : TypeId} {w0 w w' : World} {v : Value} {xs : List Value} (hb : Below B w0 w) (ho : w.ownsRow B e size v n xs) (hg : w.grownBy w' v.ownBlock) (hB : B ≤ w.heap.size := by first | omega | (simp; omega)) : Below B w0 w' :=
  hb.grown hg hB (fun k hk => (ho.lt k hk).1)
theorem row_past {w w' : World} {g B n : Nat} {v : Value} {xs : List Value} {rest : List Value} {D : List Pl} (h : Row w g rest D) (o1 o2 : Obj) (hg : ((w.alloc o1).alloc o2).grownBy w' v.ownBlock) (ho : ((w.alloc o1).alloc o2).ownsRow B 21 1 v n xs) : Row w' g rest D := by
  have h1 : Has ((w.alloc o1).alloc o2) g (.cells (encs D ++ rest).toArray 55) := (Has.alloc (Has.alloc h o1) o2)
  exact has_past h1 hg (own_ne ho h1 (by decide))
theorem blk_le (f : Int → Int) : ∀ (l : List Int) (k : Int), blk f k l ≤ k + l.length
  | [], k => by simp [blk]
  | x :: l, k => by
    have h1 := blk_le f l (k + 1)
    have h2 := blk_le f l k
    have e : blk f k (x :: l) = blk f (if f x = 0 then k + 1 else k) l := rfl
    rw [e]
    split <;> simp only [List.length_cons] <;> omega
set_option maxRecDepth 20000 in
set_option maxHeartbeats 8000000 in
theorem ordered_is (q : TQ) (v : Value) (l : List Int) (L : List Int) (hL : ord (cls q.T) l = L) (w : World) (hv : RunesAt w v l) (hlen : (l.length + 1) * 24 ≤ 140737488355328) (hT : TabAt w q) (hf : Fit q.T) :
    Calls Tryz.prog 16 #[q.v, v] w fun e w' => ∃ v', e = .returned v' ∧ Own w' w.heap.size v' L ∧ Below w.heap.size w w' := by
  obtain ⟨i0, hi, hz0, hz1, hz2⟩ := info_parts infoPl
  obtain ⟨j0, hj, hy0, hy1, hy2⟩ := info_parts infoRune
  obtain ⟨p, cap, rfl, hc⟩ := hv
  have HC := Lib.hid hc
  have HT := Lib.hid (And.intro hT hf)
  have HL := Lib.hid hL
  clear hc hT hf hL
  unfold TQ.v
  have hG := Has.new w (.cells q.cs 28)
  have HG := Lib.hid hG
  clear hG
  go_enter Tryz.func16, Tryz.ntmps16
  go_wp2_with (at_make; refine wpList_make_own _ rfl _ _ 53 rfl w.heap.size 55 i0 _ 3 Tryz.underlying53 hi hz0 hz1 _ _ _ l.length rfl rfl rfl (by rw [hz2]; omega) (by unfold maxLen; omega) (by simp) ?_; intro w1 hown1 hgrow1; simp only [World.size_alloc] at hown1; have HG1 : Hid (Has w1 w.heap.size (.cells q.cs 28)) := Lib.hid (HG.out.grown hgrow1 (by simp)); have HO1 := Lib.hid hown1; have HB1 : Hid (Below w.heap.size w w1) := Lib.hid ((bnew w _).grown hgrow1 (by simp) (fun kk hkk => by cases hkk)); clear hown1 hgrow1)
  go_loopw [5, 6, 18] (fun bv lv kv wr => ∃ (k g0 cap0 : Nat), bv = .int .i64 (blk (cls q.T) 0 (l.take k)) ∧ lv = .slice (some ⟨g0, 0, none⟩) k cap0 ∧ kv = .int .i64 k ∧ k ≤ l.length ∧ Hid (Has wr w.heap.size (.cells q.cs 28)) ∧ Hid (wr.ownsRow w.heap.size 55 3 (.slice (some ⟨g0, 0, none⟩) k cap0) (annot (cls q.T) 0 (l.take k)).length (encs (annot (cls q.T) 0 (l.take k)))) ∧ Below w.heap.size w wr) (fun _ _ k _ => l.length - (intOf k).toNat)
  case atStart => exact ⟨0, _, _, rfl, rfl, rfl, Nat.zero_le _, HG1, HO1, HB1.out⟩
  case round =>
    obtain ⟨k, g0, cap0, rfl, rfl, rfl, hk, HG, HO, hB⟩ := hrel
    clear HG1 HO1 HB1
    have hb0 : -1 ≤ blk (cls q.T) 0 (l.take k) := by have := (S_annot (cls q.T) (fun r => (HT.out.2.cls r).1) (l.take k)).nn; omega
    have hb1 : blk (cls q.T) 0 (l.take k) ≤ k := by
      have := blk_le (cls q.T) (l.take k) 0
      rw [List.length_take] at this; omega
    have HB := Lib.hid hB
    have hBs := hB.size
    by_cases hlt : k < l.length
    · obtain ⟨r, hr⟩ : ∃ r, l[k]? = some r := ⟨_, List.getElem?_eq_getElem hlt⟩
      have HRR : Hid (l[k] = r) := Lib.hid (by rw [List.getElem?_eq_getElem hlt] at hr; exact Option.some.inj hr)
      obtain ⟨g, o, rfl, hg, hx⟩ := HC.out k r hr
      have c0 := (hB.cell (p := ⟨g, o + k, none⟩) hg).trans hx
      obtain ⟨c, hc⟩ : ∃ c, cls q.T r = c := ⟨_, rfl⟩
      have hcr := HT.out.2.cls r
      rw [hc] at hcr
      have HCC := Lib.hid hc
      have m0 : wr.cell? ⟨w.heap.size, 0, none⟩ = some (.slice q.p0 q.T.spans.length q.c0) := HG.out.cell 0 rfl
      have m1 : wr.cell? ⟨w.heap.size, 1, none⟩ = some (.slice q.p1 q.T.classes.length q.c1) := HG.out.cell 1 rfl
      have m2 : wr.cell? ⟨w.heap.size, 2, none⟩ = some (.slice q.p2 q.T.pairs.length q.c2) := HG.out.cell 2 rfl
      have m3 : wr.cell? ⟨w.heap.size, 3, none⟩ = some (.slice q.p3 q.T.ways.length q.c3) := HG.out.cell 3 rfl
      have m4 : wr.cell? ⟨w.heap.size, 4, none⟩ = some (.slice q.p4 q.T.joins.length q.c4) := HG.out.cell 4 rfl
      clear hx hB hr hc
      go_wp2_with fail
      refine (class_is q r c HCC.out _ (HT.out.1.below HB.out) HT.out.2).mono ?_
      rintro e w1 ⟨rfl, hb1w⟩
      have HG1 := Lib.hid (HG.out.to hb1w)
      have HO1 : Hid (w1.ownsRow w.heap.size 55 3 (.slice (some ⟨g0, 0, none⟩) k cap0) (annot (cls q.T) 0 (l.take k)).length (encs (annot (cls q.T) 0 (l.take k)))) := Lib.hid (own_to HO.out hb1w)
      have HB1 := Lib.hid (HB.out.trans (hb1w.mono hBs))
      have hB1s := HB1.out.size
      clear hb1w m0 m1 m2 m3 m4 c0
      by_cases hz : c = 0
      · have hzb : (c == 0) = true := by simpa using hz
        have HA : Hid (annot (cls q.T) 0 (l.take (k + 1)) = annot (cls q.T) 0 (l.take k) ++ [⟨r, (blk (cls q.T) 0 (l.take k) + 1), c⟩] ∧ blk (cls q.T) 0 (l.take (k + 1)) = (blk (cls q.T) 0 (l.take k) + 1)) := Lib.hid (by
          rw [take_snoc l k hlt, HRR.out, annot_snoc, blk_snoc, HCC.out]
          simp [hz])
        obtain ⟨bk, hbk⟩ : ∃ bk, bk = blk (cls q.T) 0 (l.take k) := ⟨_, rfl⟩
        rw [← hbk] at HA hb0 hb1
        simp only [← hbk]
        have HBK := Lib.hid hbk
        obtain ⟨D, hD⟩ : ∃ D, D = annot (cls q.T) 0 (l.take k) := ⟨_, rfl⟩
        have hDl : D.length = k := by rw [hD, annot_len, List.length_take]; omega
        rw [← hD] at HO1 HA
        have HD := Lib.hid (And.intro hD hDl)
        have HO2 : Hid (w1.ownsRow w.heap.size 55 3 (.slice (some ⟨g0, 0, none⟩) k cap0) D.length (encs D)) := HO1
        clear hz hbk hD hDl
        go_wp2_with (at_builtin; refine wpList_append_own _ rfl _ _ 53 rfl w.heap.size 55 i0 _ 3 24 Tryz.underlying53 hi hz0 hz1 hz2 rfl (by decide) (.slice (some ⟨g0, 0, none⟩) k cap0) D.length (encs D) rfl (HO2.out.alloc _) ⟨w1.heap.size, 0, none⟩ 1 1 (encPl ⟨r, bk + 1, c⟩) rfl rfl (lit_pl w1 _) (encPl_one _) (by have := HD.out.2; unfold maxLen; omega) (by have := HD.out.2; omega) (by first | omega | (simp; omega)) ?_; intro v3 w3 hown3 hgrow3 _; have HG3 : Hid (Has w3 w.heap.size (.cells q.cs 28)) := Lib.hid (has_past (v := .slice (some ⟨g0, 0, none⟩) k cap0) (HG1.out.alloc (.cells #[.int .i32 r, .int .i64 (bk + 1), .int .u8 c] 55)) hgrow3 (own_ne (HO2.out.alloc (.cells #[.int .i32 r, .int .i64 (bk + 1), .int .u8 c] 55)) (HG1.out.alloc (.cells #[.int .i32 r, .int .i64 (bk + 1), .int .u8 c] 55)) (by decide))); have HB3 : Hid (Below w.heap.size w w3) := Lib.hid (bel_own (v := .slice (some ⟨g0, 0, none⟩) k cap0) (HB1.out.alloc hB1s (.cells #[.int .i32 r, .int .i64 (bk + 1), .int .u8 c] 55)) (HO2.out.alloc (.cells #[.int .i32 r, .int .i64 (bk + 1), .int .u8 c] 55)) hgrow3); obtain ⟨g3, cap3, rfl⟩ := ownsRow_succ hown3; have HO3 := Lib.hid (own_pl hown3); clear hown3 hgrow3)
        go_roundw
        case rel =>
          obtain ⟨e1, e2⟩ := HD.out
          refine ⟨k + 1, g3, cap3, by rw [HA.out.2], ?_, by go_num, by omega, HG3, Lib.hid ?_, HB3.out⟩
          · rw [e2]
          · have := HO3.out
            rw [HA.out.1]
            rw [e2] at this
            exact this
        case measure => simp [intOf]; omega
      · have hzb : (c == 0) = false := by simpa using hz
        have HA : Hid (annot (cls q.T) 0 (l.take (k + 1)) = annot (cls q.T) 0 (l.take k) ++ [⟨r, blk (cls q.T) 0 (l.take k), c⟩] ∧ blk (cls q.T) 0 (l.take (k + 1)) = blk (cls q.T) 0 (l.take k)) := Lib.hid (by
          rw [take_snoc l k hlt, HRR.out, annot_snoc, blk_snoc, HCC.out]
          simp [hz])
        obtain ⟨bk, hbk⟩ : ∃ bk, bk = blk (cls q.T) 0 (l.take k) := ⟨_, rfl⟩
        rw [← hbk] at HA hb0 hb1
        simp only [← hbk]
        have HBK := Lib.hid hbk
        obtain ⟨D, hD⟩ : ∃ D, D = annot (cls q.T) 0 (l.take k) := ⟨_, rfl⟩
        have hDl : D.length = k := by rw [hD, annot_len, List.length_take]; omega
        rw [← hD] at HO1 HA
        have HD := Lib.hid (And.intro hD hDl)
        have HO2 : Hid (w1.ownsRow w.heap.size 55 3 (.slice (some ⟨g0, 0, none⟩) k cap0) D.length (encs D)) := HO1
        clear hz hbk hD hDl
        go_wp2_with (at_builtin; refine wpList_append_own _ rfl _ _ 53 rfl w.heap.size 55 i0 _ 3 24 Tryz.underlying53 hi hz0 hz1 hz2 rfl (by decide) (.slice (some ⟨g0, 0, none⟩) k cap0) D.length (encs D) rfl (HO2.out.alloc _) ⟨w1.heap.size, 0, none⟩ 1 1 (encPl ⟨r, bk, c⟩) rfl rfl (lit_pl w1 _) (encPl_one _) (by have := HD.out.2; unfold maxLen; omega) (by have := HD.out.2; omega) (by first | omega | (simp; omega)) ?_; intro v3 w3 hown3 hgrow3 _; have HG3 : Hid (Has w3 w.heap.size (.cells q.cs 28)) := Lib.hid (has_past (v := .slice (some ⟨g0, 0, none⟩) k cap0) (HG1.out.alloc (.cells #[.int .i32 r, .int .i64 (bk), .int .u8 c] 55)) hgrow3 (own_ne (HO2.out.alloc (.cells #[.int .i32 r, .int .i64 (bk), .int .u8 c] 55)) (HG1.out.alloc (.cells #[.int .i32 r, .int .i64 (bk), .int .u8 c] 55)) (by decide))); have HB3 : Hid (Below w.heap.size w w3) := Lib.hid (bel_own (v := .slice (some ⟨g0, 0, none⟩) k cap0) (HB1.out.alloc hB1s (.cells #[.int .i32 r, .int .i64 (bk), .int .u8 c] 55)) (HO2.out.alloc (.cells #[.int .i32 r, .int .i64 (bk), .int .u8 c] 55)) hgrow3); obtain ⟨g3, cap3, rfl⟩ := ownsRow_succ hown3; have HO3 := Lib.hid (own_pl hown3); clear hown3 hgrow3)
        go_roundw
        case rel =>
          obtain ⟨e1, e2⟩ := HD.out
          refine ⟨k + 1, g3, cap3, by rw [HA.out.2], ?_, by go_num, by omega, HG3, Lib.hid ?_, HB3.out⟩
          · rw [e2]
          · have := HO3.out
            rw [HA.out.1]
            rw [e2] at this
            exact this
        case measure => simp [intOf]; omega
    · have hk2 : k = l.length := by omega
      obtain ⟨D, hD⟩ : ∃ D, D = annot (cls q.T) 0 l := ⟨_, rfl⟩
      have hDl : D.length = l.length := by rw [hD, annot_len]
      have hS : (SM.S ltP D).map (·.r) = L := by rw [hD, sort_is_ord (cls q.T) (fun r => (HT.out.2.cls r).1) l, HL.out]
      have hSl : (SM.S ltP D).length = l.length := by rw [SM.S_length, hDl]
      subst hk2
      have HOD : Hid (wr.ownsRow w.heap.size 55 3 (.slice (some ⟨g0, 0, none⟩) l.length cap0) D.length (encs D)) := Lib.hid (by have := HO.out; rw [List.take_length, ← hD] at this; exact this)
      obtain ⟨rest, hg0B, hrow⟩ := row_of_own2 hDl HOD.out
      have HROW := Lib.hid hrow
      have HDD := Lib.hid (And.intro hDl (And.intro hS hSl))
      clear hD hDl hS hSl hrow hB
      go_wp2_with fail
      refine (sortStable g0 rest l.length cap0 D _ w.heap.size hg0B HROW.out HDD.out.1 (by omega)).mono ?_
      rintro e w2 ⟨rfl, hR2, hB2⟩
      have HR2 := Lib.hid hR2
      have HB2 := Lib.hid (HB.out.trans hB2)
      have hB2s := HB2.out.size
      clear hR2 hB2
      obtain ⟨E, hE⟩ : ∃ E, E = SM.S ltP D := ⟨_, rfl⟩
      rw [← hE] at HR2 HDD
      clear hE
      go_wp2_with (at_make; refine wpList_make_own _ rfl _ _ 29 rfl w.heap.size 21 j0 _ 1 Tryz.underlying29 hj hy0 hy1 _ _ _ l.length rfl rfl rfl (by rw [hy2]; omega) (by unfold maxLen; omega) hB2s ?_; intro w3 hown3 hgrow3; have HR3 : Hid (Row w3 g0 rest E) := Lib.hid (HR2.out.grown hgrow3 (by simp)); have HO3 := Lib.hid hown3; have HB3 : Hid (Below w.heap.size w w3) := Lib.hid (HB2.out.grown hgrow3 hB2s (fun kk hkk => by cases hkk)); clear hown3 hgrow3)
      obtain ⟨wo, rfl⟩ : ∃ wo : World, wo = wr := ⟨_, rfl⟩
      go_loopw [10, 44] (fun ovv kv wr => ∃ (k : Nat) (ov : Value), ovv = ov ∧ kv = .int .i64 k ∧ k ≤ l.length ∧ Hid (Row wr g0 rest E) ∧ Hid (Own wr w.heap.size ov ((E.take k).map (·.r))) ∧ Below w.heap.size w wr) (fun _ k _ => l.length - (intOf k).toNat)
      case atStart => exact ⟨0, _, rfl, rfl, Nat.zero_le _, HR3, HO3, HB3.out⟩
      case round =>
        obtain ⟨k, ov, rfl, rfl, hk, HR, HO, hB⟩ := hrel
        have HB := Lib.hid hB
        have hBs2 := hB.size
        clear HR3 HO3 HB3 hB
        by_cases hlt2 : k < l.length
        · obtain ⟨x, hx⟩ : ∃ x, E[k]? = some x := ⟨_, List.getElem?_eq_getElem (by have := HDD.out.2.2; omega)⟩
          have x0 := HR.out.c0 hx
          have x1 := HR.out.c1 hx
          have x2 := HR.out.c2 hx
          have hgl := HR.out.lt
          have HS : Hid ((E.take (k + 1)).map (·.r) = (E.take k).map (·.r) ++ [x.r] ∧ ((E.take k).map (·.r)).length = k) := Lib.hid (by
            have hl := HDD.out.2.2
            have h1 : E[k]'(by omega) = x := by rw [List.getElem?_eq_getElem (by omega)] at hx; exact Option.some.inj hx
            refine ⟨?_, by rw [List.length_map, List.length_take]; omega⟩
            rw [take_snoc E k (by omega), h1]; simp)
          obtain ⟨F, hF⟩ : ∃ F, F = (E.take k).map (·.r) := ⟨_, rfl⟩
          rw [← hF] at HO HS
          have hFk : F.length = k := HS.out.2
          have HF := Lib.hid (And.intro hF hFk)
          obtain ⟨po, co, hov, _⟩ := HO.out.form
          rw [hFk] at hov
          subst hov
          clear hx hF hFk
          go_wp2_with (at_builtin; refine wpList_append_own _ rfl _ _ 29 rfl w.heap.size 21 j0 (.int .i32 0) 1 4 Tryz.underlying29 hj hy0 hy1 hy2 rfl (by decide) (.slice po k co) F.length (F.map (Value.int .i32)) rfl ((HO.out.alloc _).alloc _) ⟨wr.heap.size + 1, 0, none⟩ 1 1 [.int .i32 x.r] rfl rfl (by have := lit32 (wr.alloc (.cells #[.int .i32 x.r, .int .i64 x.k, .int .u8 x.c] 55)) x.r; simpa using this) (one32 _) (by have := HF.out.2; unfold maxLen; omega) (by have := HF.out.2; omega) (by first | omega | (simp; omega)) ?_; intro v4 w4 hown4 hgrow4 _; have HR4 : Hid (Row w4 g0 rest E) := Lib.hid (row_past (v := .slice po k co) HR.out (.cells #[.int .i32 x.r, .int .i64 x.k, .int .u8 x.c] 55) (.cells #[.int .i32 x.r] 21) hgrow4 ((HO.out.alloc (.cells #[.int .i32 x.r, .int .i64 x.k, .int .u8 x.c] 55)).alloc (.cells #[.int .i32 x.r] 21))); have HB4 : Hid (Below w.heap.size w w4) := Lib.hid (bel_own (v := .slice po k co) ((HB.out.alloc hBs2 (.cells #[.int .i32 x.r, .int .i64 x.k, .int .u8 x.c] 55)).alloc (by rw [World.size_alloc]; exact Nat.le_succ_of_le hBs2) (.cells #[.int .i32 x.r] 21)) ((HO.out.alloc (.cells #[.int .i32 x.r, .int .i64 x.k, .int .u8 x.c] 55)).alloc (.cells #[.int .i32 x.r] 21)) hgrow4); have HO4 := Lib.hid (own_snoc hown4); clear hown4 hgrow4; obtain ⟨p4, cap4, rfl, _⟩ := HO4.out.form)
          go_roundw
          case rel =>
            have e9 : Value.slice p4 (F ++ [x.r]).length cap4 = .slice p4 (F.length + 1) cap4 := by simp
            have h5 := HO4.out
            rw [e9] at h5
            exact ⟨k + 1, _, rfl, by go_num, by omega, HR4, Lib.hid (by rw [HS.out.1]; exact h5), HB4.out⟩
          case measure => simp [intOf]; omega
        · have h1 := HDD.out.2.2
          have hE0 := HO.out
          rw [show k = l.length by omega, List.take_of_length_le (by omega), HDD.out.2.1] at hE0
          have HE := Lib.hid hE0
          clear h1 hE0
          obtain ⟨po, co, rfl, _⟩ := HE.out.form
          go_wp2
          go_ret
          exact ⟨_, rfl, HE.out, HB.out⟩
end Go.Proofs.YtbclodbneonipaaGreat
