/-
  The document's Header.
-/
import Derived.Test.YtempmmkdppelaaaGreatDoorR8M
import Derived.Test.YtempmmkdppelaaaGreatDoorE3M
namespace Go.Proofs.YtempmmkdppelaaaGreatDoor
open Go.RowKit Go.Shelf
/-- one part more, with no bound on how many there are -/
def stepG (st : Except Nat (List (List Dir))) (p : List UInt8) : Except Nat (List (List Dir)) :=
  match st with
  | .error c => .error c
  | .ok out => match parseP ⟨p.toArray⟩ with
    | .error c => .error c
    | .ok l => if 0 < l.length then .ok (out ++ [l]) else .ok out
def foldG (ps : List (List UInt8)) : Except Nat (List (List Dir)) := ps.foldl stepG (.ok [])
theorem foldG_snoc (ps : List (List UInt8)) (p : List UInt8) : foldG (ps ++ [p]) = stepG (foldG ps) p := by unfold foldG; rw [List.foldl_append]; rfl
theorem foldG_error {ps : List (List UInt8)} {c : Nat} (h : foldG ps = .error c) (t : List (List UInt8)) : foldG (ps ++ t) = .error c := by
  unfold foldG at *
  rw [List.foldl_append, h]
  induction t with
  | nil => rfl
  | cons x t ih => exact ih
/-- the one beside the other -/
def GH (g h : Except Nat (List (List Dir))) : Prop := match g with
  | .error c => h = .error c
  | .ok out => h = .ok (out.take 65)
theorem step_GH {g h : Except Nat (List (List Dir))} (e : GH g h) (p : List UInt8) : GH (stepG g p) (stepH h p) := by
  cases g with
  | error c => unfold GH at e; subst e; rfl
  | ok out =>
    unfold GH at e; subst e
    unfold stepG stepH
    simp only
    cases hp : parseP ⟨p.toArray⟩ with
    | error c => rfl
    | ok l =>
      simp only
      by_cases h0 : 0 < l.length
      · rw [if_pos h0]
        by_cases h1 : out.length ≤ 64
        · rw [if_pos ⟨h0, by rw [List.length_take]; omega⟩]
          show _ = _
          rw [List.take_of_length_le (by omega), List.take_of_length_le (by rw [List.length_append]; simp; omega)]
        · rw [if_neg (by rw [List.length_take]; omega)]
          show _ = _
          rw [List.take_append_of_le_length (by omega)]
      · rw [if_neg h0, if_neg (by omega)]; rfl
theorem fold_GH (ps : List (List UInt8)) : GH (foldG ps) (foldH ps) := by
  unfold foldG foldH
  have key : ∀ g h, GH g h → GH (ps.foldl stepG g) (ps.foldl stepH h) := by
    induction ps with
    | nil => exact fun g h e => e
    | cons p ps ih => exact fun g h e => ih _ _ (step_GH e p)
  exact key _ _ rfl
theorem headP_G (l : List ByteArray) : headP l = match foldG (partsH l) with
    | .error c => .error c
    | .ok out => if 64 < out.length then .error 3 else .ok out := by
  have h := fold_GH (partsH l)
  unfold headP
  cases hg : foldG (partsH l) with
  | error c => rw [hg] at h; rw [show foldH (partsH l) = _ from h]
  | ok out =>
    rw [hg] at h; rw [show foldH (partsH l) = _ from h]
    simp only [List.length_take]
    by_cases h64 : 64 < out.length
    · rw [if_pos (by omega), if_pos h64]
    · rw [if_neg (by omega), if_neg h64, List.take_of_length_le (by omega)]
theorem headP_err {l : List ByteArray} {c : Nat} (h : foldG (partsH l) = .error c) : headP l = .error c := by rw [headP_G, h]
theorem foldl_err (ps : List (List UInt8)) (c : Nat) : ps.foldl stepG (.error c) = .error c := by
  induction ps with
  | nil => rfl
  | cons x t ih => exact ih
theorem foldG_len' : ∀ (ps : List (List UInt8)) (o out : List (List Dir)), ps.foldl stepG (.ok o) = .ok out → out.length ≤ o.length + ps.length
  | [], o, out, h => by cases h; simp
  | p :: ps, o, out, h => by
    rw [List.foldl_cons] at h
    cases hg : stepG (.ok o) p with
    | error c => rw [hg, foldl_err] at h; cases h
    | ok o' =>
      rw [hg] at h
      have := foldG_len' ps o' out h
      unfold stepG at hg
      simp only at hg
      split at hg
      · cases hg
      · split at hg
        · cases hg; rw [List.length_append] at this; simp at this ⊢; omega
        · cases hg; simp; omega
theorem foldG_len {ps : List (List UInt8)} {out : List (List Dir)} (h : foldG ps = .ok out) : out.length ≤ ps.length := by
  have := foldG_len' ps [] out h
  simpa using this
theorem own_grown_other {W w5 : World} {D D2 e e2 sz sz2 n n2 : Nat} {u v : Value} {xs ys : List Value} (hu : W.ownsRow D2 e sz u n xs) (h : W.ownsRow D e2 sz2 v n2 ys) (hg : W.grownBy w5 v.ownBlock) (he : e ≠ e2) : w5.ownsRow D2 e sz u n xs := by
  refine hu.kept hg ?_
  rcases hu.2 with ⟨rfl, _⟩ | ⟨g, cap, cur, rfl, _, hgb, _⟩
  · exact .inl rfl
  · refine .inr fun e' => ?_
    rcases h.2 with ⟨rfl, _⟩ | ⟨g2, cap2, cur2, rfl, _, hgb2, _⟩
    · simp [Value.ownBlock] at e'
    · have : g = g2 := by simpa [Value.ownBlock] using e'
      subst this
      rw [hgb] at hgb2; cases hgb2; exact he rfl
theorem parseP_small {y : ByteArray} {c : Nat} (h : parseP y = .error c) : c = 3 ∨ c = 4 := parseP_err h
set_option maxHeartbeats 4000000 in
set_option maxRecDepth 100000 in
theorem rheader_is (lv : Value) (l : List ByteArray) (rep : Bool) (hm : l.length ≤ 2097152) (hz : ∀ x ∈ l, x.size ≤ 2097152) (hp : (partsH l).length ≤ 2199023255552) (w : World) (hv : Strs w lv l) :
    Calls Tryz.prog 13 #[lv, .bool rep] w (HeRet w rep (headP l)) := by
  have hv' := hv
  obtain ⟨p, cap, rfl, _⟩ := hv
  obtain ⟨n, hn⟩ : ∃ n, l.length = n := ⟨_, rfl⟩
  rw [hn] at hm hv' ⊢
  have HN := Lib.hid hn
  have HV := Lib.hid hv'
  have HZ := Lib.hid hz
  have HP := Lib.hid hp
  obtain ⟨i0, hi0, hz0, hz1, hz2⟩ := info_parts info25f
  clear hv' hn hz hp
  go_enter Tryz.func13, Tryz.ntmps13
  go_wp2_with fail
  go_loopw [6, 15] (fun ov i wr => ∃ (k : Nat) (ps : List RP), k ≤ n ∧ i = .int .i64 k ∧ Hid (OwnP wr w.heap.size rep ov ps) ∧ Hid (foldG (partsH (l.take k)) = .ok (ps.map RP.pol)) ∧ Hid (Below w.heap.size w wr)) (fun _ i _ => n - (intOf i).toNat)
  case atStart => exact ⟨0, [], by omega, rfl, Lib.hid ⟨World.ownsRow_nil _ _ _ _, by simp⟩, Lib.hid rfl, Lib.hid (Below.refl _ _)⟩
  case round =>
    obtain ⟨wo, hwo⟩ : ∃ wo, wo = wr := ⟨_, rfl⟩
    subst hwo
    obtain ⟨k, ps, hk, rfl, HO, HF, HB⟩ := hrel
    have hszo := HB.out.size
    by_cases hlt : k < n
    · have hkl : k < l.length := by rw [HN.out]; exact hlt
      have i1 : (k : Int) < (n : Int) := by omega
      obtain ⟨p', c', e', hcells⟩ := HV.out.to HB.out
      rw [HN.out] at e'
      simp only [Value.slice.injEq] at e'
      obtain ⟨rfl, -, rfl⟩ := e'
      obtain ⟨g, o, rfl, hg, hx⟩ := hcells k l[k] (getT hkl)
      have hyz := HZ.out l[k] (List.getElem_mem hkl)
      obtain ⟨pt, hpt⟩ := partsH_prefix hkl
      have hTK := partsH_take hkl
      clear hcells
      generalize l[k] = y at *
      have HSP := Lib.hid (split_ref y 44 44 rfl hyz wo)
      obtain ⟨pa, hpa⟩ : ∃ pa, Ks.partsAt 44 y.data.toList = pa := ⟨_, rfl⟩
      unfold partsL at HSP
      rw [hpa] at HSP hpt hTK
      have hlp := HP.out
      rw [hpt, List.length_append, List.length_append] at hlp
      have HPT := Lib.hid hpt
      have HPA := Lib.hid hpa
      have HTK := Lib.hid hTK
      have HLP := Lib.hid hlp
      obtain ⟨m, hm1⟩ : ∃ m, pa.length = m := ⟨_, rfl⟩
      have HM := Lib.hid hm1
      have HMM := Lib.hid (show (pa.map mkB).length = m by rw [List.length_map]; exact hm1)
      rw [HMM.out] at HSP
      have hm4 : m ≤ 2199023255552 := by omega
      obtain ⟨ov, hov⟩ : ∃ ov, ov = u6 := ⟨_, rfl⟩
      subst hov
      clear hpt hTK hpa hlp hm1
      go_wp2_with fail
      refine HSP.out.mono ?_
      rintro e W1 ⟨⟨q1, c1, rfl, hO1⟩, hb1⟩
      have HO1 := Lib.hid (own_base hO1 hszo)
      have HB1 := Lib.hid (HB.out.trans (hb1.mono hszo))
      have HOP1 := Lib.hid (HO.out.to hb1)
      clear hO1 hb1 HSP
      go_wp2_with fail
      go_loopw [6, 22] (fun ov i w3 => ∃ (j : Nat) (ps : List RP), j ≤ m ∧ i = .int .i64 j ∧ Hid (OwnS w3 w.heap.size (.slice q1 m c1) (pa.map mkB)) ∧ Hid (OwnP w3 w.heap.size rep ov ps) ∧ Hid (foldG (partsH (l.take k) ++ pa.take j) = .ok (ps.map RP.pol)) ∧ Hid (Below w.heap.size w w3)) (fun _ i _ => m - (intOf i).toNat)
      case atStart => exact ⟨0, ps, by omega, rfl, HO1, HOP1, Lib.hid (by rw [List.take_zero, List.append_nil]; exact HF.out), HB1⟩
      case round =>
        obtain ⟨w3, hw3⟩ : ∃ w3, w3 = wr := ⟨_, rfl⟩
        subst hw3
        obtain ⟨j, ps2, hj, rfl, HO2, HOP2, HF2, HB2⟩ := hrel
        have hs3 := HB2.out.size
        by_cases hjm : j < m
        · have i2 : (j : Int) < (m : Int) := by omega
          have hja : j < pa.length := by have := HM.out; omega
          obtain ⟨p', c', e', hcells⟩ := strs_own HO2.out
          rw [HMM.out] at e'
          simp only [Value.slice.injEq] at e'
          obtain ⟨rfl, -, rfl⟩ := e'
          obtain ⟨g2, o2, rfl, hg2, hx2⟩ := hcells j (mkB pa[j]) (by rw [List.getElem?_map, getT hja]; rfl)
          have hsz : (mkB pa[j]).size ≤ 2097152 := by
            have h1 := (parts_size 44 y.data.toList).1 pa[j] (by rw [HPA.out]; exact List.getElem_mem hja)
            rw [Ks.len_list] at h1
            have h2 : (mkB pa[j]).size = pa[j].length := (Ks.len_list (mkB pa[j])).symm
            omega
          have HNX := Lib.hid (show foldG (partsH (l.take k) ++ pa.take (j + 1)) = stepG (.ok (ps2.map RP.pol)) pa[j] by
            rw [List.take_succ_eq_append_getElem hja, ← List.append_assoc, foldG_snoc, HF2.out])
          have HLEN := Lib.hid (show ps2.length ≤ 2199023255552 by
            have h1 := foldG_len HF2.out
            rw [List.length_map, List.length_append, List.length_take] at h1
            have := HLP.out
            omega)
          have HERR := Lib.hid (show ∀ c, foldG (partsH (l.take k) ++ pa.take (j + 1)) = .error c → headP l = .error c from fun c h => by
            refine headP_err ?_
            rw [HPT.out]
            have := foldG_error h (pa.drop (j + 1) ++ pt)
            rw [← this]; congr 1
            rw [List.append_assoc, List.append_assoc, ← List.append_assoc (pa.take (j + 1)), List.take_append_drop])
          have HRP := Lib.hid (rparse_is (mkB pa[j]) rep (by omega) w3)
          unfold stepG at HNX
          simp only at HNX
          rw [show (⟨pa[j].toArray⟩ : ByteArray) = mkB pa[j] from rfl] at HNX
          clear hcells HM
          generalize mkB pa[j] = x at *
          clear hja
          obtain ⟨ov, hov⟩ : ∃ ov, ov = u6 := ⟨_, rfl⟩
          subst hov
          cases hpp : parseP x with
          | error c =>
            have hc := parseP_small hpp
            have hc0 : ((c : Int) != 0) = true := by rcases hc with rfl | rfl <;> rfl
            have hc1 : ((c : Int) == 0) = false := by rcases hc with rfl | rfl <;> rfl
            have HE := Lib.hid (HERR.out c (by rw [HNX.out, hpp]))
            rw [hpp] at HRP
            clear hpp hc HERR HNX
            go_wp2_with fail
            refine HRP.out.mono ?_
            rintro e w4 ⟨h4, hb4⟩
            simp only at h4
            subst h4
            have HB4 := Lib.hid (HB2.out.trans (hb4.mono hs3))
            clear hb4 HRP
            unfold polV
            go_wp2_with fail
            go_ret2
            unfold HeRet
            rw [HE.out]
            exact ⟨rfl, HB4.out.trans ((bnew w4 _).mono HB4.out.size)⟩
          | ok l2 =>
            rw [hpp] at HRP HNX
            simp only at HNX
            clear hpp HERR
            go_wp2_with fail
            refine HRP.out.mono ?_
            rintro e w4 ⟨⟨v2, rs2, rfl, hO4, hl2, _⟩, hb4⟩
            obtain ⟨q2, c2, rfl⟩ := own_any hO4.row
            have hrl : l2.length = rs2.length := by rw [hl2, List.length_map]
            have HL2 := Lib.hid hl2
            have HB4 := Lib.hid (HB2.out.trans (hb4.mono hs3))
            have hs4 := hb4.size
            have HOP4 := Lib.hid (HOP2.out.to hb4)
            have HO4 := Lib.hid (own_to HO2.out hb4)
            have HD4 := Lib.hid (ownD_base hO4 hs3)
            rw [hrl] at HNX
            obtain ⟨X5, hX5⟩ : ∃ X5, w4.alloc (.cells #[.slice q2 rs2.length c2, .bool rep] 25) = X5 := ⟨_, rfl⟩
            have hb5 : Below w4.heap.size w4 X5 := hX5 ▸ bnew w4 _
            have h5 : Has X5 w4.heap.size (.cells #[.slice q2 rs2.length c2, .bool rep] 25) := hX5 ▸ Has.new w4 _
            have z0 := h5.cell 0 rfl
            have z1 := h5.cell 1 rfl
            have HB5 := Lib.hid hb5
            clear hO4 hl2 hb4 HRP h5 hrl hb5
            unfold polV
            by_cases h0 : 0 < rs2.length
            · have j1 : (0 : Int) < (rs2.length : Int) := by omega
              have j2 : decide ((0 : Int) < (rs2.length : Int)) = true := decide_eq_true j1
              have j3 : decide (0 < rs2.length) = true := decide_eq_true h0
              have HT := Lib.hid (HNX.out.trans (if_pos h0))
              obtain ⟨Z, hZ⟩ : ∃ Z, X5.alloc (.cells #[.slice q2 rs2.length c2, .bool rep] 25) = Z := ⟨_, rfl⟩
              have hbZ : Below X5.heap.size X5 Z := hZ ▸ bnew X5 _
              have hnZ : Has Z X5.heap.size (.cells #[.slice q2 rs2.length c2, .bool rep] 25) := hZ ▸ Has.new X5 _
              have m0 := hnZ.cell 0 rfl
              have m1 := hnZ.cell 1 rfl
              have HB4Z := Lib.hid (show Below w4.heap.size w4 Z from HB5.out.trans (hbZ.mono HB5.out.size))
              have HOPZ := Lib.hid (HOP4.out.to HB4Z.out)
              have HOZ := Lib.hid (own_to HO4.out HB4Z.out)
              have HDZ := Lib.hid (HD4.out.to HB4Z.out)
              have HBZ := Lib.hid (show Below w.heap.size w Z from HB4.out.trans (HB4Z.out.mono HB4.out.size))
              have hsZ := HBZ.out.size
              have hln := HLEN.out
              obtain ⟨q3, c3, rfl⟩ := own_any HOP2.out.row
              clear hbZ hnZ HOP4 HO4 HD4 HOP2 HO2 HNX
              go_wp2_with (at_builtin; refine wpList_append_own _ rfl (.tmp 39) (.tmp 41) 29 rfl w.heap.size 25 i0 (.agg #[.slice none 0 0, .bool false]) 2 32 Tryz.underlying29 hi0 hz0 hz1 hz2 rfl (by decide) _ _ _ rfl HOPZ.out.row ⟨X5.heap.size, 0, none⟩ 1 1 [.slice q2 rs2.length c2, .bool rep] rfl rfl ?c1 ?c2 ?c3 ?c4 ?c5 ?_)
              case c1 =>
                intro j z hj
                match j, hj with
                | 0, hj => simp at hj; subst hj; exact m0
                | 1, hj => simp at hj; subst hj; exact m1
                | j + 2, hj => simp at hj
              case c2 => intro z hz; simp at hz; rcases hz with rfl | rfl <;> rfl
              case c3 => unfold maxLen; omega
              case c4 => omega
              case c5 => omega
              intro v' w8 hown hgr _
              have HN5 := Lib.hid (ownP_more (p := ⟨.slice q2 rs2.length c2, rs2⟩) HOPZ.out HDZ.out hgr hown)
              have HN6 := Lib.hid (own_grown_other HOZ.out HOPZ.out.row hgr (by decide))
              have HN7 := Lib.hid (HBZ.out.grown hgr hsZ fun j ej => (HOPZ.out.row.lt j ej).1)
              clear hown hgr m0 m1
              go_wp2_with fail
              go_roundw
              case rel => exact ⟨j + 1, ps2 ++ [⟨.slice q2 rs2.length c2, rs2⟩], by omega, by go_num, HN6, HN5, Lib.hid (by rw [HT.out, List.map_append, HL2.out]; rfl), HN7⟩
              case measure => simp [intOf]; omega
            · have j1 : ¬ (0 : Int) < (rs2.length : Int) := by omega
              have j2 : decide ((0 : Int) < (rs2.length : Int)) = false := decide_eq_false j1
              have HT := Lib.hid (HNX.out.trans (if_neg h0))
              clear HNX
              go_wp2_with fail
              go_roundw
              case rel => exact ⟨j + 1, ps2, by omega, by go_num, Lib.hid (own_to HO4.out HB5.out), Lib.hid (HOP4.out.to HB5.out), HT, Lib.hid (HB4.out.trans (HB5.out.mono HB4.out.size))⟩
              case measure => simp [intOf]; omega
        · have i2 : ¬ (j : Int) < (m : Int) := by omega
          have HT := Lib.hid (show foldG (partsH (l.take (k + 1))) = .ok (ps2.map RP.pol) by
            have e : pa.take j = pa := List.take_of_length_le (by have := HM.out; omega)
            rw [HTK.out, ← HF2.out, e])
          go_wp2_with fail
          go_roundw
          case rel => exact ⟨k + 1, ps2, by omega, by go_num, HOP2, HT, HB2⟩
          case measure => simp [intOf]; omega
    · have i1 : ¬ (k : Int) < (n : Int) := by omega
      have HT := Lib.hid (show headP l = if 64 < ps.length then .error 3 else .ok (ps.map RP.pol) by
        have h := HF.out
        rw [List.take_of_length_le (by have := HN.out; omega)] at h
        rw [headP_G, h]
        simp only [List.length_map])
      obtain ⟨q3, c3, rfl⟩ := own_any HO.out.row
      by_cases h64 : 64 < ps.length
      · have j1 : (64 : Int) < (ps.length : Int) := by omega
        have j2 : decide ((64 : Int) < (ps.length : Int)) = true := decide_eq_true j1
        have HE := Lib.hid (HT.out.trans (if_pos h64))
        clear HT
        go_wp2_with fail
        go_ret2
        unfold HeRet
        rw [HE.out]
        exact ⟨rfl, HB.out⟩
      · have j1 : ¬ (64 : Int) < (ps.length : Int) := by omega
        have j2 : decide ((64 : Int) < (ps.length : Int)) = false := decide_eq_false j1
        have HE := Lib.hid (HT.out.trans (if_neg h64))
        clear HT
        go_wp2_with fail
        go_ret2
        unfold HeRet
        rw [HE.out]
        exact ⟨⟨_, ps, rfl, HO.out, rfl⟩, HB.out⟩
end Go.Proofs.YtempmmkdppelaaaGreatDoor
