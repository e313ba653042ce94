/-
  The document's runs.
-/
import Derived.Test.YtflddokngplgiaaDoorXFM
namespace Go.Proofs.YtflddokngplgiaaDoor
open Go.RowKit
def ORow (W : World) (D : Nat) (v : Value) (xs : List Nat) : Prop := W.ownsRow D 26 1 v xs.length (xs.map u16V)
theorem oown_base {w : World} {B B' e size n : Nat} {v : Value} {xs : List Value} (h : w.ownsRow B e size v n xs) (hB : B' ≤ B) : w.ownsRow B' e size v n xs := ⟨h.1, h.2.imp id (fun ⟨g, cap, cur, h1, h2, h3⟩ => ⟨g, cap, cur, h1, Nat.le_trans hB h2, h3⟩)⟩
theorem lit_two (w : World) (a b : Int) : ∀ j u, ([Value.int .u16 a, .int .u16 b])[j]? = some u → (w.alloc (.cells #[.int .u16 a, .int .u16 b] 26)).cell? ((⟨w.heap.size, 0, none⟩ : Addr).add j) = some u := by
  intro j u hj
  match j, hj with
  | 0, hj => simp at hj; subst hj; simp [Addr.add]
  | 1, hj => simp at hj; subst hj; simp [Addr.add]
  | j + 2, hj => simp at hj
theorem two_one (a b : Int) : ∀ u ∈ [Value.int .u16 a, .int .u16 b], u.oneCell' = true := by intro u hu; simp at hu; rcases hu with rfl | rfl <;> rfl
theorem lit_one16 (w : World) (c : Int) : ∀ j u, ([Value.int .u16 c])[j]? = some u → (w.alloc (.cells #[.int .u16 c] 26)).cell? ((⟨w.heap.size, 0, none⟩ : Addr).add j) = some u := cell_one_new w _ 26
theorem one_one (c : Int) : ∀ u ∈ [Value.int .u16 c], u.oneCell' = true := by intro u hu; simp at hu; subst hu; rfl
theorem pc_none {w w' : World} {R : Option (List Nat)} (h : R = none) (hb : Below w.heap.size w w') : PcRet w R (.returned (.tuple #[.slice none 0 0, .bool false])) w' := by rw [h]; exact ⟨rfl, hb⟩
theorem pc_some {w w' : World} {R : Option (List Nat)} {xs : List Nat} {v : Value} (h : R = some xs) (ho : w'.ownsRow w.heap.size 26 1 v xs.length (xs.map u16V)) (hb : Below w.heap.size w w') : PcRet w R (.returned (.tuple #[v, .bool true])) w' := by rw [h]; exact ⟨⟨v, rfl, ho⟩, hb⟩
theorem dgt_hex {b : UInt8} : (anyK kHex b.toNat = true → dgt b.toNat = dv b.toNat ∧ dgt b.toNat ≤ 15) ∧ (anyK kHex b.toNat = false → 15 < dgt b.toNat) := by
  have h := dig16 b.toNat (UInt8.toNat_lt _)
  constructor
  · intro e
    refine ⟨h.2 e, ?_⟩
    have := h.1
    rw [e, decide_eq_true_eq] at this; omega
  · intro e
    have := h.1
    rw [e, decide_eq_false_iff_not] at this; omega
set_option maxHeartbeats 8000000 in
set_option maxRecDepth 100000 in
theorem rruns_is (s : ByteArray) (d : Bool) (hs : s.size ≤ 2097152) (w : World) : Calls Tryd.prog 29 #[.string s, .bool d] w (PcRet w (runsP d s.data.toList)) := by
  by_cases hs0 : s.data.toList = []
  · have g1 : (s.toList == []) = true := by rw [ByteArray.toList_eq, hs0]; rfl
    have HF := Lib.hid (show runsP d s.data.toList = some [] from by rw [hs0]; cases d <;> rfl)
    clear hs0
    go_enter Tryd.func29, Tryd.ntmps29
    go_wp2_with fail
    go_ret2
    exact pc_some HF.out (World.ownsRow_nil _ _ _ _) (Below.refl _ _)
  have g0 : (s.toList == []) = false := by rw [ByteArray.toList_eq]; cases hq : s.data.toList with
    | nil => exact absurd hq hs0
    | cons _ _ => rfl
  have HRS := Lib.hid (runs_eq d hs0)
  clear hs0
  obtain ⟨i9, hi9, hy0, hy1, hy2⟩ : ∃ i, Tryd.prog.info? 9 = some i ∧ i.zero = some (.string ⟨#[]⟩) ∧ i.size = 1 ∧ i.bytes = 16 := by
    have h := info9x
    cases hq : Tryd.prog.info? 9 with
    | none => rw [hq] at h; cases h
    | some i => rw [hq] at h; simp at h; exact ⟨i, rfl, h.1, h.2.1, h.2.2⟩
  obtain ⟨i26, hi26, hw0, hw1, hw2⟩ : ∃ i, Tryd.prog.info? 26 = some i ∧ i.zero = some (.int .u16 0) ∧ i.size = 1 ∧ i.bytes = 2 := by
    have h := info26x
    cases hq : Tryd.prog.info? 26 with
    | none => rw [hq] at h; cases h
    | some i => rw [hq] at h; simp at h; exact ⟨i, rfl, h.1, h.2.1, h.2.2⟩
  have HR0 := Lib.hid (show WRow (w.alloc (.cells #[.string ⟨#[]⟩] 9)) w.heap.size (.slice (some ⟨w.heap.size, 0, none⟩) 1 1) (wdAt 58 s.data.toList 0) from wrow_new w)
  have HB0 := Lib.hid ((Below.refl w.heap.size w).alloc (Nat.le_refl _) (.cells #[.string ⟨#[]⟩] 9))
  generalize runsP d s.data.toList = R at *
  go_enter Tryd.func29, Tryd.ntmps29
  go_wp2_with fail
  go_loopw [6, 7] (fun v i wr => ∃ k : Nat, k ≤ s.size ∧ i = .int .i64 k ∧ Hid (WRow wr w.heap.size v (wdAt 58 s.data.toList k)) ∧ Hid (Below w.heap.size w wr)) (fun _ i _ => s.size - (intOf i).toNat)
  case atStart => exact ⟨0, by omega, rfl, HR0, HB0⟩
  case round =>
    clear HR0 HB0
    obtain ⟨k, hk, rfl, HO, HB⟩ := hrel
    obtain ⟨v, hv⟩ : ∃ v, v = u6 := ⟨_, rfl⟩
    subst hv
    have hszo := HB.out.size
    obtain ⟨hl1, hl2⟩ := wd_len 58 s.data.toList k
    by_cases hlt : k < s.size
    · have i1 : (k : Int) < (s.size : Int) := by omega
      have i2 : k + 1 ≤ s.size := hlt
      have i3 : (k : Int) + 1 ≤ (s.size : Int) := by omega
      have i4 : k ≤ k + 1 := by omega
      have hbk := get_list s k hlt
      by_cases hc : s[k] = 58
      · have g1 := b_eq 58 rfl hc
        have HN := Lib.hid (wd_cut (show s.data.toList[k]? = some 58 by rw [hbk, hc]))
        generalize wdAt 58 s.data.toList k = ps at *
        obtain ⟨n, hn⟩ : ∃ n, ps.length = n := ⟨_, rfl⟩
        rw [hn] at hl1
        have HO2 := Lib.hid (show wr.ownsRow w.heap.size 9 1 v n (strW ps) from hn ▸ HO.out)
        have HNN := Lib.hid hn
        obtain ⟨q, cc, rfl⟩ := wown_any HO2.out
        clear hbk hc hl2 hn HO
        go_wp2_with (at_builtin; refine wpList_append_own _ rfl _ _ 40 rfl w.heap.size 9 i9 (.string ⟨#[]⟩) 1 16 Tryd.underlying40 hi9 hy0 hy1 hy2 rfl (by decide) _ _ _ rfl (HO2.out.alloc _) ⟨wr.heap.size, 0, none⟩ 1 1 [.string ⟨#[]⟩] rfl rfl ?c1 ?c2 ?c3 ?c4 ?c5 ?_)
        case c1 =>
          intro j u hj
          match j, hj with
          | 0, hj => simp at hj; subst hj; simp [Addr.add]
        case c2 => intro u hu; simp at hu; subst hu; rfl
        case c3 => unfold maxLen; omega
        case c4 => omega
        case c5 => simp; omega
        intro v' w2 hown hgr _
        have HBN := Lib.hid ((HB.out.alloc hszo _).grown hgr (by simp; omega) fun j ej => (HO2.out.lt j ej).1)
        have HON := Lib.hid (show WRow w2 w.heap.size v' (ps ++ [[]]) from WRow.more (by rw [HNN.out]; exact hown))
        clear hown hgr HO2 HB
        go_wp2_with fail
        go_roundw
        case rel => exact ⟨k + 1, hlt, by go_num, Lib.hid (by rw [HN.out]; exact HON.out), HBN⟩
        case measure => simp [intOf]; omega
      · have g1 := b_ne 58 rfl hc
        obtain ⟨ps, p, e1, e2⟩ := wd_on hbk hc
        have HN := Lib.hid e2
        rw [e1] at HO hl1 hl2
        obtain ⟨g, cap, rfl, hg1, hg2⟩ := HO.out.block (by simp)
        have hp := hl2 p (by simp)
        have hcell := HO.out.cell (j := ps.length) (p := p) (by simp)
        have hfr := HO.out.frozenAt ps.length
        have HS := Lib.hid (WRow.last (p ++ [s[k]]) HO.out).drew
        have HCAT := Lib.hid (ba_snoc s p k hlt)
        rw [← HCAT.out] at HS
        have hz1 : (mkB p).size ≤ 2097152 := by rw [mkB_size]; omega
        have hz2 : (s.extract k (k + 1)).size ≤ 2097152 := by rw [ByteArray.size_extract]; omega
        have hz3 : ¬ 9223372036854775807 < (mkB p).size + (s.extract k (k + 1)).size := by omega
        obtain ⟨n, hn⟩ : ∃ n, (ps ++ [p]).length = n := ⟨_, rfl⟩
        have hm : ps.length = n - 1 := by rw [← hn]; simp
        have hn1 : 1 ≤ n := by rw [← hn]; simp
        rw [hn] at HS hl1
        rw [hn]
        rw [hm] at hcell hfr HS
        have j0 : (0 : Int) ≤ (n : Int) - 1 := by omega
        have j1 : ((n : Int) - 1).toNat = n - 1 := by omega
        have j2 : n - 1 < n := by omega
        have j3 : (n : Int) - 1 < (n : Int) := by omega
        clear hbk hc hl2 hn hm e1 e2 HO hp
        go_wp2_with fail
        go_region
        go_wp2_with fail
        exact ⟨⟨k + 1, hlt, by go_num, Lib.hid (by rw [HN.out]; exact HS.out), Lib.hid ((HB.out.setCell (p := ⟨g, n - 1, none⟩) hg1 _).drew)⟩, by simp [intOf]; omega⟩
    · have i1 : ¬ (k : Int) < (s.size : Int) := by omega
      have hall := wd_all (c := 58) (l := s.data.toList) (k := k) (by rw [len_list]; omega)
      have HO := Lib.hid (show WRow wr w.heap.size v (partsAt 58 s.data.toList) from hall ▸ HO.out)
      obtain ⟨hl1, hl2⟩ : (partsAt 58 s.data.toList).length ≤ s.size + 1 ∧ ∀ p ∈ partsAt 58 s.data.toList, p.length ≤ s.size := by
        rw [hall] at hl1 hl2
        exact ⟨by omega, fun p hp => by have := hl2 p hp; omega⟩
      clear hall
      obtain ⟨wz, hwz⟩ : ∃ wz, wz = wr := ⟨_, rfl⟩
      subst hwz
      have hps := partsAt_some 58 s.data.toList
      generalize partsAt 58 s.data.toList = ps at *
      obtain ⟨g, cap, rfl, hg1, hg2⟩ := HO.out.block hps
      have HCL := Lib.hid (fun (j : Nat) (p : List UInt8) (hj : ps[j]? = some p) => HO.out.cell hj)
      have HZ := Lib.hid hl2
      obtain ⟨n, hn⟩ : ∃ n, ps.length = n := ⟨_, rfl⟩
      have HN := Lib.hid hn
      rw [hn] at hl1 hps ⊢
      clear hn HO hl2
      have hwd : w.heap.size ≤ wz.heap.size := HB.out.size
      go_wp2_with fail
      go_loopw [8, 47] (fun ou i w2 => ∃ (m : Nat) (xs : List Nat), m ≤ n ∧ i = .int .i64 m ∧ xs.length ≤ 2 * m ∧ Hid (ORow w2 wz.heap.size ou xs) ∧ Hid (R = runG d (ps.drop m) xs) ∧ Hid (Below wz.heap.size wz w2)) (fun _ i _ => n - (intOf i).toNat)
      case atStart => exact ⟨0, [], by omega, rfl, by simp, Lib.hid (World.ownsRow_nil _ _ _ _), HRS, Lib.hid (Below.refl _ _)⟩
      case round =>
        clear HRS
        obtain ⟨m, xs, hm, rfl, hxn, HX, HS2, HB2⟩ := hrel
        obtain ⟨ov, hov⟩ : ∃ ov, ov = u8 := ⟨_, rfl⟩
        subst hov
        obtain ⟨q3, c3, rfl⟩ := wown_any HX.out
        by_cases hlt2 : m < n
        · have i1 : (m : Int) < (n : Int) := by omega
          have hml : m < ps.length := by rw [HN.out]; exact hlt2
          obtain ⟨p, hp⟩ : ∃ p, ps[m]? = some p := ⟨_, List.getElem?_eq_getElem hml⟩
          have hc := (HB2.out.cell (p := ⟨g, m, none⟩) hg2).trans (HCL.out m p hp)
          have hpz := HZ.out p (List.mem_of_getElem? hp)
          have hst := HS2.out.trans (runG_next d xs hp)
          rw [HN.out] at hst
          have HST := Lib.hid hst
          have hxl : (mkB p).data.toList = p := rfl
          have hxs : (mkB p).size = p.length := rfl
          have hxe : ((mkB p).toList == []) = p.isEmpty := mk_empty p
          have hxz : (mkB p).size ≤ 2097152 := by rw [hxs]; omega
          have HSTR := Lib.hid (fun W : World => rstrict_is (mkB p) hxz W)
          rw [hxl] at HSTR
          obtain ⟨x, hx⟩ : ∃ x, mkB p = x := ⟨_, rfl⟩
          rw [hx] at hc hxl hxs hxe hxz HSTR
          have HXL := Lib.hid hxl
          have HXS := Lib.hid hxs
          have HXE := Lib.hid hxe
          clear hx hml hp hst HS2 hxl hxs hxe
          go_upto_region 14 with fail
          go_cut [59] from 49 to 59 (fun sb wc => ∃ b : Bool, sb = .bool b ∧ Hid ((d && decide (m + 1 = n)) = b) ∧ Hid (ORow wc wz.heap.size (.slice q3 xs.length c3) xs) ∧ Hid (Below wz.heap.size wz wc))
          case first =>
            cases d with
            | true =>
              by_cases hl : m + 1 = n
              · have g2 : ((m : Int) == (n : Int) - 1) = true := beq_iff_eq.2 (by omega)
                have HF := Lib.hid (show (true && decide (m + 1 = n)) = true from by rw [decide_eq_true hl]; rfl)
                clear HST hl
                go_wp2_with fail
                go_meet
                case rel => exact ⟨true, rfl, HF, HX, HB2⟩
              · have g2 : ((m : Int) == (n : Int) - 1) = false := beq_eq_false_iff_ne.2 (by omega)
                have HF := Lib.hid (show (true && decide (m + 1 = n)) = false from by rw [decide_eq_false hl]; rfl)
                clear HST hl
                go_wp2_with fail
                go_meet
                case rel => exact ⟨false, rfl, HF, HX, HB2⟩
            | false =>
              have HF := Lib.hid (show (false && decide (m + 1 = n)) = false from rfl)
              clear HST
              go_wp2_with fail
              go_meet
              case rel => exact ⟨false, rfl, HF, HX, HB2⟩
          case rest =>
          clear HX HB2
          obtain ⟨b, rfl, HTB, HX, HB2⟩ := hcut
          have HST := Lib.hid (show R = (wordD b p).bind fun y => runG d (ps.drop (m + 1)) (xs ++ y) from by rw [← HTB.out]; exact HST.out)
          clear HTB
          go_upto_if 59 with fail
          go_cut [8] from 49 to 74 (fun s8 wc => s8 = .slice q3 xs.length c3 ∧ Hid (wordD b p = hex1 p) ∧ Hid (ORow wc wz.heap.size (.slice q3 xs.length c3) xs) ∧ Hid (Below wz.heap.size wz wc))
          case first =>
            cases b with
            | false =>
              clear HST
              go_wp2_with fail
              go_meet
              case rel => exact ⟨rfl, Lib.hid rfl, HX, HB2⟩
            | true =>
              cases hsp : strictP p with
              | none =>
                rw [hsp] at HSTR
                have HF := Lib.hid (show wordD true p = hex1 p from by unfold wordD; rw [if_pos rfl, hsp])
                clear hsp HST
                go_wp2_with (go_at_call 45; refine (HSTR.out _).mono ?_; unfold refNE; rintro e w4 ⟨rfl, hb4⟩)
                go_meet
                case rel => exact ⟨rfl, HF, Lib.hid (own_to HX.out hb4), Lib.hid (HB2.out.trans (hb4.mono HB2.out.size))⟩
              | some k =>
                rw [hsp] at HSTR
                have hk := (str_some hsp).1
                have HF := Lib.hid (show R = runG d (ps.drop (m + 1)) (xs ++ [k / 65536, k % 65536]) from HST.out.trans (by unfold wordD; rw [if_pos rfl, hsp]; rfl))
                clear hsp HST
                have hmx : xs.length + 2 ≤ maxLen := by unfold maxLen; omega
                go_wp2_with (first | (go_at_call 45; refine (HSTR.out _).mono ?_; unfold refNE; rintro e w4 ⟨rfl, hb4⟩; have HX4 := Lib.hid (own_to HX.out hb4); have HB4 := Lib.hid (HB2.out.trans (hb4.mono HB2.out.size)); have hz4 := HB4.out.size; clear hb4) | (at_builtin; refine wpList_append_own _ rfl (.tmp 66) (.tmp 73) 49 rfl wz.heap.size 26 i26 (.int .u16 0) 1 2 Tryd.underlying49 hi26 hw0 hw1 hw2 rfl (by decide) _ _ _ rfl (HX4.out.alloc _) ⟨w4.heap.size, 0, none⟩ 2 2 [.int .u16 ((k : Int) / 65536), .int .u16 ((k : Int) % 65536)] rfl rfl (lit_two w4 _ _) (two_one _ _) hmx (by omega) (by simp; omega) ?_))
                intro v' w8 hown hgr _
                have HXN := Lib.hid (show ORow w8 wz.heap.size v' (xs ++ [k / 65536, k % 65536]) from by
                  unfold ORow
                  rw [List.length_append, List.map_append]
                  exact hown)
                have HBN := Lib.hid ((HB4.out.alloc HB4.out.size _).grown hgr (by have := HB4.out.size; simp; omega) fun j ej => (HX4.out.lt j ej).1)
                clear hown hgr
                go_wp2_with fail
                go_roundw
                case rel => exact ⟨m + 1, xs ++ [k / 65536, k % 65536], hlt2, by go_num, by rw [List.length_append]; simp; omega, HXN, HF, HBN⟩
                case measure => simp [intOf]; omega
          case rest =>
          clear HX HB2
          obtain ⟨rfl, HW, HX, HB2⟩ := hcut
          have HST := Lib.hid (show R = (hex1 p).bind fun y => runG d (ps.drop (m + 1)) (xs ++ y) from by rw [← HW.out]; exact HST.out)
          have HNO := Lib.hid (show hexP p = none → R = none from fun h => HST.out.trans (by unfold hex1; rw [h]; rfl))
          have HYES := Lib.hid (show ∀ k, hexP p = some k → R = runG d (ps.drop (m + 1)) (xs ++ [k]) from fun k h => HST.out.trans (by unfold hex1; rw [h]; rfl))
          clear HW HST hc HSTR
          by_cases he : p = []
          · have g2 : (x.toList == []) = true := by rw [HXE.out, he]; rfl
            have HF := Lib.hid (HNO.out (hexP_no (.inl he)))
            clear he HNO HYES
            go_wp2_with fail
            go_ret2
            exact pc_none HF.out (HB.out.trans (HB2.out.mono HB.out.size))
          have g2 : (x.toList == []) = false := by rw [HXE.out]; cases p with
            | nil => exact absurd rfl he
            | cons _ _ => rfl
          by_cases h4 : 4 < x.size
          · have d1 : (4 : Int) < (x.size : Int) := by omega
            have d2 : decide ((4 : Int) < (x.size : Int)) = true := decide_eq_true d1
            have HF := Lib.hid (HNO.out (hexP_no (.inr (.inl (by rw [← HXS.out]; exact h4)))))
            clear he HNO HYES
            go_wp2_with fail
            go_ret2
            exact pc_none HF.out (HB.out.trans (HB2.out.mono HB.out.size))
          have d1 : ¬ (4 : Int) < (x.size : Int) := by omega
          have d2 : decide ((4 : Int) < (x.size : Int)) = false := decide_eq_false d1
          have HNE := Lib.hid he
          clear he
          go_wp2_with fail
          go_loopw [13, 14] (fun u i w3 => ∃ (j : Nat) (v : Int), j ≤ x.size ∧ u = .int .u64 v ∧ 0 ≤ v ∧ v < 65536 ∧ i = .int .i64 j ∧ Hid (((numL 16 (p.take j) : Nat) : Int) = v ∧ ∀ (t : Nat) y, t < j → p[t]? = some y → anyK kHex y.toNat = true) ∧ Hid (ORow w3 wz.heap.size (.slice q3 xs.length c3) xs) ∧ Hid (Below wz.heap.size wz w3)) (fun _ i _ => x.size - (intOf i).toNat)
          case atStart => exact ⟨0, 0, by omega, rfl, by omega, by omega, rfl, Lib.hid ⟨rfl, fun t y ht => by omega⟩, HX, HB2⟩
          case round =>
            clear HX HB2
            obtain ⟨j, v, hj, rfl, hv0, hv1, rfl, HV, HX, HB2⟩ := hrel
            by_cases hjs : j < x.size
            · have k1 : (j : Int) < (x.size : Int) := by omega
              have e0 := get_list x j hjs
              rw [HXL.out] at e0
              have HDG := Lib.hid (fun W : World => dgt_is x[j].toNat (UInt8.toNat_lt _) W)
              have hhx := @dgt_hex x[j]
              cases hh : anyK kHex x[j].toNat with
              | false =>
                have hd := hhx.2 hh
                have HF := Lib.hid (HNO.out (hexP_no (.inr (.inr (hx_not e0 hh)))))
                obtain ⟨dd, hdq⟩ : ∃ dd, dgt x[j].toNat = dd := ⟨_, rfl⟩
                rw [hdq] at HDG hd
                have c1 : (15 : Int) < (dd : Int) := by omega
                have c2 : decide ((15 : Int) < (dd : Int)) = true := decide_eq_true c1
                clear hhx hh e0 hdq HNO HYES
                go_wp2_with (go_at_call 40; refine (HDG.out _).mono ?_; rintro e w4 ⟨rfl, hb4⟩; have HB4 := Lib.hid (HB2.out.trans (hb4.mono HB2.out.size)); clear hb4)
                go_ret2
                exact pc_none HF.out (HB.out.trans (HB4.out.mono HB.out.size))
              | true =>
                obtain ⟨hdv, hd15⟩ := hhx.1 hh
                have hjl : j < p.length := by rw [← HXS.out]; exact hjs
                have htk : p.take (j + 1) = p.take j ++ [x[j]] := by
                  rw [List.take_succ_eq_append_getElem hjl]
                  have := List.getElem?_eq_getElem hjl
                  rw [e0] at this
                  rw [Option.some.inj this]
                have hall : ∀ (t : Nat) y, t < j + 1 → p[t]? = some y → anyK kHex y.toNat = true := fun t y ht hy => by
                  by_cases hjk : t = j
                  · subst hjk; rw [e0] at hy; cases hy; exact hh
                  · exact HV.out.2 t y (by omega) hy
                have hbd := hex_bound (hx_take hall) (by rw [List.length_take]; omega)
                have hnv : ((numL 16 (p.take (j + 1)) : Nat) : Int) = 16 * v + ((dgt x[j].toNat : Nat) : Int) := by
                  rw [htk, num16_snoc, hdv]
                  have := HV.out.1
                  omega
                obtain ⟨dd, hdq⟩ : ∃ dd, dgt x[j].toNat = dd := ⟨_, rfl⟩
                rw [hdq] at HDG hd15 hnv
                have hb2 : 16 * v + (dd : Int) < 65536 := by omega
                have HV2 := Lib.hid (And.intro hnv hall)
                have c1 : ¬ (15 : Int) < (dd : Int) := by omega
                have c2 : decide ((15 : Int) < (dd : Int)) = false := decide_eq_false c1
                clear hhx hh e0 hdq hnv hall hbd htk hdv hjl
                go_wp2_with (go_at_call 40; refine (HDG.out _).mono ?_; rintro e w4 ⟨rfl, hb4⟩)
                go_roundw
                case rel => exact ⟨j + 1, 16 * v + (dd : Int), hjs, by go_num, by omega, hb2, by go_num, HV2, Lib.hid (own_to HX.out hb4), Lib.hid (HB2.out.trans (hb4.mono HB2.out.size))⟩
                case measure => simp [intOf]; omega
            · have k1 : ¬ (j : Int) < (x.size : Int) := by omega
              have htk : p.take j = p := List.take_of_length_le (by rw [← HXS.out]; omega)
              have hall := hx_take HV.out.2
              have hve := HV.out.1
              rw [htk] at hve hall
              have HF := Lib.hid (HYES.out _ (hexP_yes HNE.out (by rw [← HXS.out]; omega) hall))
              have HVP := Lib.hid hve
              obtain ⟨w4, hw4⟩ : ∃ w4, w4 = wr := ⟨_, rfl⟩
              subst hw4
              have HX4 := HX
              have HB4 := HB2
              clear htk hall hve HV HNO HYES
              have hmx : xs.length + 1 ≤ maxLen := by unfold maxLen; omega
              have hz4 := HB4.out.size
              go_wp2_with (at_builtin; refine wpList_append_own _ rfl (.tmp 98) (.tmp 101) 49 rfl wz.heap.size 26 i26 (.int .u16 0) 1 2 Tryd.underlying49 hi26 hw0 hw1 hw2 rfl (by decide) _ _ _ rfl (HX4.out.alloc _) ⟨w4.heap.size, 0, none⟩ 1 1 [.int .u16 v] rfl rfl (lit_one16 w4 v) (one_one v) hmx (by omega) (by simp; omega) ?_)
              intro v' w8 hown hgr _
              have HXN := Lib.hid (show ORow w8 wz.heap.size v' (xs ++ [numL 16 p]) from by
                unfold ORow
                rw [List.length_append, List.map_append]
                rw [show ([numL 16 p].map u16V) = [.int .u16 v] from by rw [← HVP.out]; rfl]
                exact hown)
              have HBN := Lib.hid ((HB4.out.alloc HB4.out.size _).grown hgr (by have := HB4.out.size; simp; omega) fun j ej => (HX4.out.lt j ej).1)
              clear hown hgr
              go_wp2_with fail
              go_roundw
              case rel => exact ⟨m + 1, xs ++ [numL 16 p], hlt2, by go_num, by rw [List.length_append]; simp; omega, HXN, HF, HBN⟩
              case measure => simp [intOf]; omega
        · have i1 : ¬ (m : Int) < (n : Int) := by omega
          have HF := Lib.hid (show R = some xs from HS2.out.trans (by rw [List.drop_of_length_le (by rw [HN.out]; omega)]; rfl))
          go_wp2_with fail
          go_ret2
          exact pc_some HF.out (oown_base HX.out hwd) (HB.out.trans (HB2.out.mono HB.out.size))

end Go.Proofs.YtflddokngplgiaaDoor
