/-
  The document's strict.
-/
import Derived.Test.YtflddokngplgiaaDoorXDM
namespace Go.Proofs.YtflddokngplgiaaDoor
open Go.RowKit
/-- a Boolean says it -/
def TB (b : Bool) (A : Prop) : Prop := b = true ↔ A
theorem TB.t {A : Prop} (h : A) : TB true A := ⟨fun _ => h, fun _ => rfl⟩
theorem TB.f {A : Prop} (h : ¬ A) : TB false A := ⟨fun e => Bool.noConfusion e, fun a => absurd a h⟩
/-- what no decimal number begins like -/
def BadH (p : List UInt8) : Prop := p = [] ∨ 3 < p.length ∨ (1 < p.length ∧ p[0]? = some 48)
theorem decB_bad {p : List UInt8} (h : BadH p) : decB p = none := by unfold decB; exact if_pos h
theorem decB_ok {p : List UInt8} (h : ¬ BadH p) : decB p = if p.all isDec = true then (if decF p ≤ 255 then some (decF p) else none) else none := by unfold decB; exact if_neg h
theorem strG_cons {ps : List (List UInt8)} {k acc : Nat} {p : List UInt8} (h : ps[k]? = some p) : strG (ps.drop k) acc = (decB p).bind fun n => strG (ps.drop (k + 1)) (256 * acc + n) := by
  obtain ⟨hk, e⟩ := List.getElem?_eq_some_iff.1 h
  rw [List.drop_eq_getElem_cons hk, e, strG]
theorem decF_snoc (p : List UInt8) (b : UInt8) : decF (p ++ [b]) = 10 * decF p + (b.toNat - 48) := by unfold decF; rw [List.foldl_append]; rfl
theorem dgt_dec {b : UInt8} (h : isDec b = true) : dgt b.toNat = b.toNat - 48 ∧ b.toNat - 48 ≤ 9 := by
  unfold isDec at h
  rw [Bool.and_eq_true] at h
  have h1 := of_decide_eq_true h.1
  have h2 := of_decide_eq_true h.2
  refine ⟨?_, by omega⟩
  unfold dgt
  rw [if_pos ⟨h1, h2⟩]
theorem decF_lt : ∀ (p : List UInt8) (a : Nat), p.all isDec = true → p.foldl (fun a b => 10 * a + (b.toNat - 48)) a < (a + 1) * 10 ^ p.length
  | [], a, _ => by simp
  | b :: p, a, h => by
    rw [List.all_cons, Bool.and_eq_true] at h
    have h2 := (dgt_dec h.1).2
    have h1 := decF_lt p (10 * a + (b.toNat - 48)) h.2
    rw [List.foldl_cons, List.length_cons, Nat.pow_succ]
    have h3 : (10 * a + (b.toNat - 48) + 1) * 10 ^ p.length ≤ ((a + 1) * 10) * 10 ^ p.length := Nat.mul_le_mul_right _ (by omega)
    rw [show (a + 1) * (10 ^ p.length * 10) = ((a + 1) * 10) * 10 ^ p.length by rw [Nat.mul_comm (10 ^ p.length) 10, Nat.mul_assoc]]
    omega
theorem decF_bound {p : List UInt8} (h : p.all isDec = true) (h3 : p.length ≤ 3) : decF p < 1000 := by
  have h1 := decF_lt p 0 h
  rw [Nat.zero_add, Nat.one_mul] at h1
  exact Nat.lt_of_lt_of_le h1 (Nat.pow_le_pow_right (n := 10) (by omega) h3)
theorem take_all {p : List UInt8} {j : Nat} (h : ∀ (t : Nat) y, t < j → p[t]? = some y → isDec y = true) : (p.take j).all isDec = true := List.all_eq_true.2 fun y hy => by
  obtain ⟨t, ht, rfl⟩ := List.getElem_of_mem hy
  rw [List.length_take] at ht
  exact h t _ (by omega) (by rw [List.getElem_take]; exact List.getElem?_eq_getElem (by omega))
theorem not_all {p : List UInt8} {b : UInt8} {j : Nat} (h : p[j]? = some b) (hb : isDec b = false) : p.all isDec = false := List.all_eq_false.2 ⟨b, List.mem_of_getElem? h, by rw [hb]; simp⟩
set_option maxHeartbeats 8000000 in
set_option maxRecDepth 100000 in
theorem rstrict_is (s : ByteArray) (hs : s.size ≤ 2097152) (w : World) : Calls Tryd.prog 45 #[.string s] w fun e w' => e = refNE (strictP s.data.toList) ∧ Below w.heap.size w w' := by
  obtain ⟨i9, hi9, hy0, hy1, hy2⟩ : ∃ i, Tryd.prog.info? 9 = some i ∧ i.zero = some (.string ⟨#[]⟩) ∧ i.size = 1 ∧ i.bytes = 16 := by
    have h := info9x
    cases hq : Tryd.prog.info? 9 with
    | none => rw [hq] at h; cases h
    | some i => rw [hq] at h; simp at h; exact ⟨i, rfl, h.1, h.2.1, h.2.2⟩
  have HR0 := Lib.hid (show WRow (w.alloc (.cells #[.string ⟨#[]⟩] 9)) w.heap.size (.slice (some ⟨w.heap.size, 0, none⟩) 1 1) (wdAt 46 s.data.toList 0) from wrow_new w)
  have HB0 := Lib.hid ((Below.refl w.heap.size w).alloc (Nat.le_refl _) (.cells #[.string ⟨#[]⟩] 9))
  obtain ⟨R, hR⟩ : ∃ R, strictP s.data.toList = R := ⟨_, rfl⟩
  rw [hR]
  have HRS := Lib.hid (show R = if (partsAt 46 s.data.toList).length = 4 then strG (partsAt 46 s.data.toList) 0 else none from hR.symm)
  clear hR
  go_enter Tryd.func45, Tryd.ntmps45
  go_wp2_with fail
  go_loopw [4, 5] (fun v i wr => ∃ k : Nat, k ≤ s.size ∧ i = .int .i64 k ∧ Hid (WRow wr w.heap.size v (wdAt 46 s.data.toList k)) ∧ Hid (Below w.heap.size w wr)) (fun _ i _ => s.size - (intOf i).toNat)
  case atStart => exact ⟨0, by omega, rfl, HR0, HB0⟩
  case round =>
    clear HR0 HB0
    obtain ⟨k, hk, rfl, HO, HB⟩ := hrel
    obtain ⟨v, hv⟩ : ∃ v, v = u4 := ⟨_, rfl⟩
    subst hv
    have hszo := HB.out.size
    obtain ⟨hl1, hl2⟩ := wd_len 46 s.data.toList k
    by_cases hlt : k < s.size
    · have i1 : (k : Int) < (s.size : Int) := by omega
      have i2 : k + 1 ≤ s.size := hlt
      have i3 : (k : Int) + 1 ≤ (s.size : Int) := by omega
      have i4 : k ≤ k + 1 := by omega
      have hbk := get_list s k hlt
      by_cases hc : s[k] = 46
      · have g1 := b_eq 46 rfl hc
        have HN := Lib.hid (wd_cut (show s.data.toList[k]? = some 46 by rw [hbk, hc]))
        generalize wdAt 46 s.data.toList k = ps at *
        obtain ⟨n, hn⟩ : ∃ n, ps.length = n := ⟨_, rfl⟩
        rw [hn] at hl1
        have HO2 := Lib.hid (show wr.ownsRow w.heap.size 9 1 v n (strW ps) from hn ▸ HO.out)
        have HNN := Lib.hid hn
        obtain ⟨q, cc, rfl⟩ := wown_any HO2.out
        clear hbk hc hl2 hn HO
        go_wp2_with (at_builtin; refine wpList_append_own _ rfl _ _ 40 rfl w.heap.size 9 i9 (.string ⟨#[]⟩) 1 16 Tryd.underlying40 hi9 hy0 hy1 hy2 rfl (by decide) _ _ _ rfl (HO2.out.alloc _) ⟨wr.heap.size, 0, none⟩ 1 1 [.string ⟨#[]⟩] rfl rfl ?c1 ?c2 ?c3 ?c4 ?c5 ?_)
        case c1 =>
          intro j u hj
          match j, hj with
          | 0, hj => simp at hj; subst hj; simp [Addr.add]
        case c2 => intro u hu; simp at hu; subst hu; rfl
        case c3 => unfold maxLen; omega
        case c4 => omega
        case c5 => simp; omega
        intro v' w2 hown hgr _
        have HBN := Lib.hid ((HB.out.alloc hszo _).grown hgr (by simp; omega) fun j ej => (HO2.out.lt j ej).1)
        have HON := Lib.hid (show WRow w2 w.heap.size v' (ps ++ [[]]) from WRow.more (by rw [HNN.out]; exact hown))
        clear hown hgr HO2 HB
        go_wp2_with fail
        go_roundw
        case rel => exact ⟨k + 1, hlt, by go_num, Lib.hid (by rw [HN.out]; exact HON.out), HBN⟩
        case measure => simp [intOf]; omega
      · have g1 := b_ne 46 rfl hc
        obtain ⟨ps, p, e1, e2⟩ := wd_on hbk hc
        have HN := Lib.hid e2
        rw [e1] at HO hl1 hl2
        obtain ⟨g, cap, rfl, hg1, hg2⟩ := HO.out.block (by simp)
        have hp := hl2 p (by simp)
        have hcell := HO.out.cell (j := ps.length) (p := p) (by simp)
        have hfr := HO.out.frozenAt ps.length
        have HS := Lib.hid (WRow.last (p ++ [s[k]]) HO.out).drew
        have HCAT := Lib.hid (ba_snoc s p k hlt)
        rw [← HCAT.out] at HS
        have hz1 : (mkB p).size ≤ 2097152 := by rw [mkB_size]; omega
        have hz2 : (s.extract k (k + 1)).size ≤ 2097152 := by rw [ByteArray.size_extract]; omega
        have hz3 : ¬ 9223372036854775807 < (mkB p).size + (s.extract k (k + 1)).size := by omega
        obtain ⟨n, hn⟩ : ∃ n, (ps ++ [p]).length = n := ⟨_, rfl⟩
        have hm : ps.length = n - 1 := by rw [← hn]; simp
        have hn1 : 1 ≤ n := by rw [← hn]; simp
        rw [hn] at HS hl1
        rw [hn]
        rw [hm] at hcell hfr HS
        have j0 : (0 : Int) ≤ (n : Int) - 1 := by omega
        have j1 : ((n : Int) - 1).toNat = n - 1 := by omega
        have j2 : n - 1 < n := by omega
        have j3 : (n : Int) - 1 < (n : Int) := by omega
        clear hbk hc hl2 hn hm e1 e2 HO hp
        go_wp2_with fail
        go_region
        go_wp2_with fail
        exact ⟨⟨k + 1, hlt, by go_num, Lib.hid (by rw [HN.out]; exact HS.out), Lib.hid ((HB.out.setCell (p := ⟨g, n - 1, none⟩) hg1 _).drew)⟩, by simp [intOf]; omega⟩
    · have i1 : ¬ (k : Int) < (s.size : Int) := by omega
      have hall := wd_all (c := 46) (l := s.data.toList) (k := k) (by rw [len_list]; omega)
      have HO := Lib.hid (show WRow wr w.heap.size v (partsAt 46 s.data.toList) from hall ▸ HO.out)
      obtain ⟨hl1, hl2⟩ : (partsAt 46 s.data.toList).length ≤ s.size + 1 ∧ ∀ p ∈ partsAt 46 s.data.toList, p.length ≤ s.size := by
        rw [hall] at hl1 hl2
        exact ⟨by omega, fun p hp => by have := hl2 p hp; omega⟩
      clear hall
      obtain ⟨wz, hwz⟩ : ∃ wz, wz = wr := ⟨_, rfl⟩
      subst hwz
      have hst := HRS.out
      have hps := partsAt_some 46 s.data.toList
      clear HRS
      generalize partsAt 46 s.data.toList = ps at *
      obtain ⟨g, cap, rfl, hg1, hg2⟩ := HO.out.block hps
      have HCL := Lib.hid (fun (j : Nat) (p : List UInt8) (hj : ps[j]? = some p) => HO.out.cell hj)
      have HZ := Lib.hid hl2
      obtain ⟨n, hn⟩ : ∃ n, ps.length = n := ⟨_, rfl⟩
      have HN := Lib.hid hn
      rw [hn] at hst hl1 hps ⊢
      clear hn HO hl2
      by_cases h4 : n ≠ 4
      · have g1 : ((n : Int) != 4) = true := bne_iff_ne.2 (by omega)
        have HF := Lib.hid (show R = none from hst.trans (if_neg h4))
        clear hst
        go_wp2_with fail
        go_ret2
        exact ⟨refNE_no HF.out, HB.out⟩
      have h4 : n = 4 := Classical.not_not.1 h4
      have g1 : ((n : Int) != 4) = false := by rw [h4]; rfl
      have HS := Lib.hid (show R = strG (ps.drop 0) 0 from hst.trans (if_pos h4))
      have H4 := Lib.hid h4
      have hn4 : n ≤ 4 := by omega
      have hn4' : 4 ≤ n := by omega
      clear hst h4
      go_wp2_with fail
      go_loopw [6, 43] (fun u i w2 => ∃ (k acc : Nat) (a : Int), k ≤ n ∧ u = .int .u64 a ∧ a < 4294967296 ∧ 0 ≤ a ∧ i = .int .i64 k ∧ Hid ((acc : Int) = a ∧ acc < 256 ^ k) ∧ Hid (R = strG (ps.drop k) acc) ∧ Hid (Below wz.heap.size wz w2)) (fun _ i _ => n - (intOf i).toNat)
      case atStart => exact ⟨0, 0, 0, by omega, rfl, by omega, by omega, rfl, Lib.hid ⟨rfl, by decide⟩, HS, Lib.hid (Below.refl _ _)⟩
      case round =>
        obtain ⟨m, acc, a, hm, rfl, ha1, ha0, rfl, HA, HS2, HB2⟩ := hrel
        by_cases hlt2 : m < n
        · have i1 : (m : Int) < (n : Int) := by omega
          have hml : m < ps.length := by rw [HN.out]; exact hlt2
          obtain ⟨p, hp⟩ : ∃ p, ps[m]? = some p := ⟨_, List.getElem?_eq_getElem hml⟩
          have hc := (HB2.out.cell (p := ⟨g, m, none⟩) hg2).trans (HCL.out m p hp)
          have hpz := HZ.out p (List.mem_of_getElem? hp)
          have HST := Lib.hid (HS2.out.trans (strG_cons hp))
          obtain ⟨x, hx⟩ : ∃ x, mkB p = x := ⟨_, rfl⟩
          have hxl : x.data.toList = p := by rw [← hx]; rfl
          have hxs : x.size = p.length := by rw [← hx]; rfl
          have hxe : (x.toList == []) = p.isEmpty := by rw [← hx]; exact mk_empty p
          have HXL := Lib.hid hxl
          rw [hx] at hc
          clear hx hml hp
          go_upto_region 14 with fail
          go_cut [63] from 47 to 63 (fun sb wc => ∃ b : Bool, sb = .bool b ∧ Hid (TB b (BadH p)) ∧ Hid (Below wz.heap.size wz wc))
          case first =>
            by_cases he : p = []
            · have g2 : (x.toList == []) = true := by rw [hxe, he]; rfl
              have HF := Lib.hid (TB.t (A := BadH p) (.inl he))
              clear hxe he HST hxl hxs
              go_wp2_with fail
              go_meet
              case rel => exact ⟨true, rfl, HF, HB2⟩
            · have g2 : (x.toList == []) = false := by rw [hxe]; cases p with
                | nil => exact absurd rfl he
                | cons _ _ => rfl
              by_cases h3 : 3 < x.size
              · have c1 : (3 : Int) < (x.size : Int) := by omega
                have c2 : decide ((3 : Int) < (x.size : Int)) = true := decide_eq_true c1
                have HF := Lib.hid (TB.t (A := BadH p) (.inr (.inl (by omega))))
                clear hxe he HST hxl hxs
                go_wp2_with fail
                go_meet
                case rel => exact ⟨true, rfl, HF, HB2⟩
              · have c1 : ¬ (3 : Int) < (x.size : Int) := by omega
                have c2 : decide ((3 : Int) < (x.size : Int)) = false := decide_eq_false c1
                by_cases h1 : 1 < x.size
                · have d1 : (1 : Int) < (x.size : Int) := by omega
                  have d2 : decide ((1 : Int) < (x.size : Int)) = true := decide_eq_true d1
                  have d3 : 0 < x.size := by omega
                  have d4 : (0 : Int) < (x.size : Int) := by omega
                  have e0 := get_list x 0 d3
                  rw [hxl] at e0
                  by_cases hz : x[0] = 48
                  · have q0 := b_eq 48 rfl hz
                    have HF := Lib.hid (TB.t (A := BadH p) (.inr (.inr ⟨by omega, by rw [e0, hz]⟩)))
                    clear hxe he HST hxl e0 hz hxs
                    go_wp2_with fail
                    go_meet
                    case rel => exact ⟨true, rfl, HF, HB2⟩
                  · have q0 := b_ne 48 rfl hz
                    have HF := Lib.hid (TB.f (A := BadH p) (fun h => by
                      rcases h with h | h | h
                      · exact he h
                      · omega
                      · rw [e0] at h; exact hz (Option.some.inj h.2)))
                    clear hxe he HST hxl e0 hz hxs
                    go_wp2_with fail
                    go_meet
                    case rel => exact ⟨false, rfl, HF, HB2⟩
                · have d1 : ¬ (1 : Int) < (x.size : Int) := by omega
                  have d2 : decide ((1 : Int) < (x.size : Int)) = false := decide_eq_false d1
                  have HF := Lib.hid (TB.f (A := BadH p) (fun h => by
                    rcases h with h | h | h
                    · exact he h
                    · omega
                    · omega))
                  clear hxe he HST hxl hxs
                  go_wp2_with fail
                  go_meet
                  case rel => exact ⟨false, rfl, HF, HB2⟩
          case rest =>
          obtain ⟨b, rfl, HTB, HB3⟩ := hcut
          clear HB2 hc hxe
          cases b with
          | true =>
            have HF := Lib.hid (show R = none from HST.out.trans (by rw [decB_bad (HTB.out.1 rfl)]; rfl))
            clear HST HTB
            go_wp2_with fail
            go_ret2
            exact ⟨refNE_no HF.out, HB.out.trans (HB3.out.mono HB.out.size)⟩
          | false =>
            have hnb : ¬ BadH p := fun h => Bool.noConfusion (HTB.out.2 h)
            have hx3 : x.size ≤ 3 := by
              rcases Nat.lt_or_ge 3 p.length with h | h
              · exact absurd (.inr (.inl h)) hnb
              · omega
            have HDB := Lib.hid (decB_ok hnb)
            clear HTB hnb
            go_wp2_with fail
            go_loopw [9, 10] (fun u i w3 => ∃ (j : Nat) (v : Int), j ≤ x.size ∧ u = .int .u64 v ∧ 0 ≤ v ∧ v < 1000 ∧ i = .int .i64 j ∧ Hid ((decF (p.take j) : Int) = v ∧ ∀ (t : Nat) y, t < j → p[t]? = some y → isDec y = true) ∧ Hid (Below wz.heap.size wz w3)) (fun _ i _ => x.size - (intOf i).toNat)
            case atStart => exact ⟨0, 0, by omega, rfl, by omega, by omega, rfl, Lib.hid ⟨rfl, fun t y ht => by omega⟩, HB3⟩
            case round =>
              clear HB3
              obtain ⟨j, v, hj, rfl, hv0, hv1, rfl, HV, HB3⟩ := hrel
              by_cases hjs : j < x.size
              · have k1 : (j : Int) < (x.size : Int) := by omega
                have e0 := get_list x j hjs
                rw [HXL.out] at e0
                have HNO := Lib.hid (show isDec x[j] = false → R = none from fun h => HST.out.trans (by rw [HDB.out, not_all e0 h]; rfl))
                have hjl : j < p.length := by rw [← hxs]; exact hjs
                have htk : p.take (j + 1) = p.take j ++ [x[j]] := by
                  rw [List.take_succ_eq_append_getElem hjl]
                  have := List.getElem?_eq_getElem hjl
                  rw [e0] at this
                  rw [Option.some.inj this]
                have HNX := Lib.hid (show isDec x[j] = true → (((decF (p.take (j + 1)) : Nat) : Int) = 10 * v + ((dgt x[j].toNat : Nat) : Int) ∧ ∀ (t : Nat) y, t < j + 1 → p[t]? = some y → isDec y = true) ∧ decF (p.take (j + 1)) < 1000 from fun h => by
                  have hall : ∀ (t : Nat) y, t < j + 1 → p[t]? = some y → isDec y = true := fun t y ht hy => by
                    by_cases hjk : t = j
                    · subst hjk; rw [e0] at hy; cases hy; exact h
                    · exact HV.out.2 t y (by omega) hy
                  refine ⟨⟨?_, hall⟩, decF_bound (take_all hall) (by rw [List.length_take]; omega)⟩
                  rw [htk, decF_snoc, (dgt_dec h).1]
                  have := HV.out.1
                  omega)
                clear e0 htk hjl
                by_cases h48 : x[j].toNat < 48
                · have c1 : ((x[j].toNat : Nat) : Int) < 48 := by omega
                  have c2 : decide (((x[j].toNat : Nat) : Int) < 48) = true := decide_eq_true c1
                  have HF := Lib.hid (HNO.out (by unfold isDec; rw [decide_eq_false (by omega)]; rfl))
                  clear HNO HNX
                  go_wp2_with fail
                  go_ret2
                  exact ⟨refNE_no HF.out, HB.out.trans (HB3.out.mono HB.out.size)⟩
                · have c1 : ¬ ((x[j].toNat : Nat) : Int) < 48 := by omega
                  have c2 : decide (((x[j].toNat : Nat) : Int) < 48) = false := decide_eq_false c1
                  by_cases h57 : 57 < x[j].toNat
                  · have c3 : (57 : Int) < ((x[j].toNat : Nat) : Int) := by omega
                    have c4 : decide ((57 : Int) < ((x[j].toNat : Nat) : Int)) = true := decide_eq_true c3
                    have HF := Lib.hid (HNO.out (by unfold isDec; rw [decide_eq_false (show ¬ x[j].toNat ≤ 57 by omega), Bool.and_false]))
                    clear HNO HNX
                    go_wp2_with fail
                    go_ret2
                    exact ⟨refNE_no HF.out, HB.out.trans (HB3.out.mono HB.out.size)⟩
                  · have c3 : ¬ (57 : Int) < ((x[j].toNat : Nat) : Int) := by omega
                    have c4 : decide ((57 : Int) < ((x[j].toNat : Nat) : Int)) = false := decide_eq_false c3
                    have hdc : isDec x[j] = true := by unfold isDec; rw [decide_eq_true (show 48 ≤ x[j].toNat by omega), decide_eq_true (show x[j].toNat ≤ 57 by omega)]; rfl
                    obtain ⟨⟨hnv, hna⟩, hnb⟩ := HNX.out hdc
                    have hd9 := (dgt_dec hdc).2
                    have hdd := (dgt_dec hdc).1
                    have HDG := Lib.hid (fun W : World => dgt_is x[j].toNat (UInt8.toNat_lt _) W)
                    obtain ⟨d, hdq⟩ : ∃ d, dgt x[j].toNat = d := ⟨_, rfl⟩
                    rw [hdq] at HDG hnv hdd
                    have hd9 : d ≤ 9 := by omega
                    have HV2 := Lib.hid (And.intro hnv hna)
                    have hb2 : 10 * v + (d : Int) < 1000 := by omega
                    clear HNO HNX hdc hnv hna hnb hdq hdd
                    go_wp2_with (go_at_call 40; refine (HDG.out _).mono ?_; rintro e w4 ⟨rfl, hb4⟩)
                    go_roundw
                    case rel => exact ⟨j + 1, 10 * v + (d : Int), hjs, by go_num, by omega, hb2, by go_num, HV2, Lib.hid (HB3.out.trans (hb4.mono HB3.out.size))⟩
                    case measure => simp [intOf]; omega
              · have k1 : ¬ (j : Int) < (x.size : Int) := by omega
                have htk : p.take j = p := List.take_of_length_le (by omega)
                have hall : p.all isDec = true := by have := take_all HV.out.2; rw [htk] at this; exact this
                have hve := HV.out.1
                rw [htk] at hve
                have HST := Lib.hid (HST.out.trans (by rw [HDB.out, if_pos hall]))
                clear HDB HV htk hall
                by_cases h255 : (255 : Int) < v
                · have c2 : decide ((255 : Int) < v) = true := decide_eq_true h255
                  have HF := Lib.hid (show R = none from HST.out.trans (by rw [if_neg (by omega)]; rfl))
                  clear HST hve
                  go_wp2_with fail
                  go_ret2
                  exact ⟨refNE_no HF.out, HB.out.trans (HB3.out.mono HB.out.size)⟩
                · have c2 : decide ((255 : Int) < v) = false := decide_eq_false h255
                  have HNX := Lib.hid (show R = strG (ps.drop (m + 1)) (256 * acc + decF p) from HST.out.trans (by rw [if_pos (by omega)]; rfl))
                  have hpw : 256 ^ (m + 1) ≤ 256 ^ 4 := Nat.pow_le_pow_right (by omega) (by omega)
                  have hac : 256 * acc + decF p < 256 ^ (m + 1) := by
                    have h1 := HA.out.2
                    rw [Nat.pow_succ]; omega
                  have hav : ((256 * acc + decF p : Nat) : Int) = 256 * a + v := by have := HA.out.1; omega
                  have HA2 := Lib.hid (And.intro hav hac)
                  have hb1 : 256 * a + v < 4294967296 := by
                    have h9 : (256 : Nat) ^ 4 = 4294967296 := by decide
                    omega
                  clear hpw hac hav hve HST
                  go_wp2_with fail
                  go_roundw
                  case rel => exact ⟨m + 1, 256 * acc + decF p, 256 * a + v, hlt2, by go_num, hb1, by omega, by go_num, HA2, HNX, HB3⟩
                  case measure => simp [intOf]; omega
        · have i1 : ¬ (m : Int) < (n : Int) := by omega
          have HF := Lib.hid (show R = some acc from HS2.out.trans (by rw [List.drop_of_length_le (by rw [HN.out]; omega)]; rfl))
          go_wp2_with fail
          go_ret2
          exact ⟨refNE_yes HF.out HA.out.1, HB.out.trans (HB2.out.mono HB.out.size)⟩

end Go.Proofs.YtflddokngplgiaaDoor
