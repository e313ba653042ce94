import Derived.Test.YtflddokngplgiaaDoorX9M
import Derived.Laws.OwnMore
import Derived.Deep.CutRange
/-
  Words between bytes, as the document's answers make them.
-/
namespace Go.Proofs.YtflddokngplgiaaDoor
open Go.RowKit
def mkB (l : List UInt8) : ByteArray := ⟨l.toArray⟩
theorem mkB_size (l : List UInt8) : (mkB l).size = l.length := rfl
theorem mkB_list (l : List UInt8) : (mkB l).data.toList = l := rfl
theorem info9x : (Tryd.prog.info? 9).map (fun i => (i.zero, i.size, i.bytes)) = some (some (.string ⟨#[]⟩), 1, 16) := by kernel_rfl
/-- texts that can be read -/
def WStrs (w : World) (v : Value) (l : List (List UInt8)) : Prop :=
  ∃ (p : Option Addr) (cap : Nat), v = .slice p l.length cap ∧ ∀ i x, l[i]? = some x → ∃ g, p = some ⟨g, 0, none⟩ ∧ g < w.heap.size ∧ w.cell? ⟨g, i, none⟩ = some (.string (mkB x))
theorem WStrs.to {w w' : World} {v : Value} {l : List (List UInt8)} (h : WStrs w v l) (hb : Below w.heap.size w w') : WStrs w' v l := by
  obtain ⟨p, cap, hv, hc⟩ := h
  refine ⟨p, cap, hv, fun i x hi => ?_⟩
  obtain ⟨g, hp, hg, h1⟩ := hc i x hi
  exact ⟨g, hp, Nat.lt_of_lt_of_le hg hb.size, (hb.cell (p := ⟨g, i, none⟩) hg).trans h1⟩
def strW (ps : List (List UInt8)) : List Value := ps.map fun p => .string (mkB p)
/-- the words up to a place, of the call's own -/
def WRow (W : World) (D : Nat) (v : Value) (ps : List (List UInt8)) : Prop := W.ownsRow D 9 1 v ps.length (strW ps)
theorem wown_any {w : World} {B e size n : Nat} {v : Value} {xs : List Value} (h : w.ownsRow B e size v n xs) : ∃ q c, v = .slice q n c := by
  rcases h.2 with ⟨rfl, rfl⟩ | ⟨g, cap, cur, rfl, _⟩
  · exact ⟨none, 0, rfl⟩
  · exact ⟨_, _, rfl⟩
/-- of at least one word there is a block -/
theorem WRow.block {W : World} {D : Nat} {v : Value} {ps : List (List UInt8)} (h : WRow W D v ps) (h0 : 0 < ps.length) : ∃ g cap, v = .slice (some ⟨g, 0, none⟩) ps.length cap ∧ D ≤ g ∧ g < W.heap.size := by
  rcases h.2 with ⟨_, h1⟩ | ⟨g, cap, cur, rfl, hb, hgb, _⟩
  · omega
  · exact ⟨g, cap, rfl, hb, (Array.getElem?_eq_some_iff.1 hgb).1⟩
theorem WRow.cell {W : World} {D g cap : Nat} {ps : List (List UInt8)} (h : WRow W D (.slice (some ⟨g, 0, none⟩) ps.length cap) ps) {j : Nat} {p : List UInt8} (hj : ps[j]? = some p) : W.cell? ⟨g, j, none⟩ = some (.string (mkB p)) := by
  have hl := (List.getElem?_eq_some_iff.1 hj).1
  rw [h.cellAt j (by omega)]
  unfold strW
  rw [List.getElem?_map, hj]; rfl
theorem WRow.strs {W : World} {D : Nat} {v : Value} {ps : List (List UInt8)} (h : WRow W D v ps) : WStrs W v ps := by
  by_cases h0 : 0 < ps.length
  · obtain ⟨g, cap, rfl, _, hg⟩ := h.block h0
    exact ⟨_, cap, rfl, fun i x hi => ⟨g, rfl, hg, h.cell hi⟩⟩
  · obtain ⟨q, c, rfl⟩ := wown_any h
    exact ⟨q, c, rfl, fun i x hi => by have := (List.getElem?_eq_some_iff.1 hi).1; omega⟩
/-- the last one is another -/
theorem WRow.last {W : World} {D g cap : Nat} {ps : List (List UInt8)} {p : List UInt8} (q : List UInt8) (h : WRow W D (.slice (some ⟨g, 0, none⟩) (ps ++ [p]).length cap) (ps ++ [p])) : WRow (W.setCell ⟨g, ps.length, none⟩ (.string (mkB q))) D (.slice (some ⟨g, 0, none⟩) (ps ++ [p]).length cap) (ps ++ [q]) := by
  have h1 := (h.stored ps.length (.string (mkB q))).1
  unfold WRow
  have e : (strW (ps ++ [p])).set ps.length (.string (mkB q)) = strW (ps ++ [q]) := by
    unfold strW
    rw [List.map_append, List.map_append, List.set_append_right _ _ (by simp)]
    simp
  rw [e] at h1
  have e2 : (ps ++ [q]).length = (ps ++ [p]).length := by simp
  rw [e2]; exact h1
theorem WRow.more {W : World} {D : Nat} {v : Value} {ps : List (List UInt8)} {p : List UInt8} (h : W.ownsRow D 9 1 v (ps.length + 1) (strW ps ++ [.string (mkB p)])) : WRow W D v (ps ++ [p]) := by
  unfold WRow strW
  rw [List.length_append, List.map_append]
  exact h
/-- the words up to a place -/
def wdAt (c : UInt8) (l : List UInt8) (k : Nat) : List (List UInt8) := partsAt c (l.take k)
theorem wd_zero (c : UInt8) (l : List UInt8) : wdAt c l 0 = [[]] := rfl
theorem wd_cut {c : UInt8} {l : List UInt8} {k : Nat} (h : l[k]? = some c) : wdAt c l (k + 1) = wdAt c l k ++ [[]] := by
  unfold wdAt
  obtain ⟨hk, e⟩ := List.getElem?_eq_some_iff.1 h
  rw [List.take_succ_eq_append_getElem hk, e, partsAt_end]
theorem wd_on {c b : UInt8} {l : List UInt8} {k : Nat} (h : l[k]? = some b) (hb : ¬ b = c) : ∃ ps p, wdAt c l k = ps ++ [p] ∧ wdAt c l (k + 1) = ps ++ [p ++ [b]] := by
  unfold wdAt
  obtain ⟨hk, e⟩ := List.getElem?_eq_some_iff.1 h
  rw [List.take_succ_eq_append_getElem hk, e, partsAt_snoc c b hb]
  exact ⟨_, _, last_split c (l.take k), rfl⟩
theorem wd_all {c : UInt8} {l : List UInt8} {k : Nat} (h : l.length ≤ k) : wdAt c l k = partsAt c l := by unfold wdAt; rw [List.take_of_length_le h]
theorem wd_len (c : UInt8) (l : List UInt8) (k : Nat) : (wdAt c l k).length ≤ k + 1 ∧ ∀ p ∈ wdAt c l k, p.length ≤ k := by
  unfold wdAt
  have h1 := partsAt_count c (l.take k)
  have h2 := partsAt_len c (l.take k)
  rw [List.length_take] at h1 h2
  exact ⟨by omega, fun p hp => by have := h2 p hp; omega⟩
end Go.Proofs.YtflddokngplgiaaDoor
/-
  The document's parts.
-/
namespace Go.Proofs.YtflddokngplgiaaDoor
open Go.RowKit
theorem WRow.drew {W : World} {D : Nat} {v : Value} {ps : List (List UInt8)} (h : WRow W D v ps) : WRow W.drew D v ps := h
theorem ba_snoc (s : ByteArray) (p : List UInt8) (k : Nat) (hk : k < s.size) : mkB p ++ s.extract k (k + 1) = mkB (p ++ [s[k]]) := by
  have h : (s.extract k (k + 1)).data.toList = [s[k]] := by
    rw [ByteArray.data_extract, Array.toList_extract]
    simp only [List.extract]
    rw [drop_at s k hk]; simp
  apply ByteArray.ext
  apply Array.toList_inj.1
  rw [ByteArray.data_append, Array.toList_append, h]; rfl
theorem wrow_new (w : World) : WRow (w.alloc (.cells #[.string ⟨#[]⟩] 9)) w.heap.size (.slice (some ⟨w.heap.size, 0, none⟩) 1 1) [[]] := World.ownsRow_lit w #[.string ⟨#[]⟩] 1 (Nat.le_refl _) (by unfold maxLen; omega) rfl
theorem WRow.cap {W : World} {D g n cap : Nat} {ps : List (List UInt8)} (h : WRow W D (.slice (some ⟨g, 0, none⟩) n cap) ps) (hn : n = ps.length) : n ≤ cap := by
  subst hn
  rcases h.2 with ⟨h1, _⟩ | ⟨g', cap', cur, h1, _, _, hnc, _⟩
  · simp at h1
  · simp only [Value.slice.injEq] at h1
    omega
theorem mk_empty (p : List UInt8) : ((mkB p).toList == []) = p.isEmpty := by rw [ByteArray.toList_eq]; cases p <;> rfl
theorem mk_full {p : List UInt8} (h : ¬ p = []) : ((mkB p).toList == []) = false := by
  rw [mk_empty]
  cases p with
  | nil => exact absurd rfl h
  | cons _ _ => rfl
theorem b_eq {x c : UInt8} (n : Int) (hn : ((c.toNat : Nat) : Int) = n) (h : x = c) : (((x.toNat : Nat) : Int) == n) = true := by subst h; simp [hn]
theorem b_ne {x c : UInt8} (n : Int) (hn : ((c.toNat : Nat) : Int) = n) (h : ¬ x = c) : (((x.toNat : Nat) : Int) == n) = false := beq_eq_false_iff_ne.2 fun e => h (UInt8.toNat_inj.1 (by omega))
set_option maxHeartbeats 4000000 in
set_option maxRecDepth 100000 in
theorem rparts_is (s : ByteArray) (hs : s.size ≤ 2097152) (w : World) : Calls Tryd.prog 26 #[.string s] w fun e w' => (∃ v, e = .returned v ∧ WStrs w' v (refPs s.data.toList)) ∧ Below w.heap.size w w' := by
  obtain ⟨i9, hi9, hy0, hy1, hy2⟩ : ∃ i, Tryd.prog.info? 9 = some i ∧ i.zero = some (.string ⟨#[]⟩) ∧ i.size = 1 ∧ i.bytes = 16 := by
    have h := info9x
    cases hq : Tryd.prog.info? 9 with
    | none => rw [hq] at h; cases h
    | some i => rw [hq] at h; simp at h; exact ⟨i, rfl, h.1, h.2.1, h.2.2⟩
  have HR0 := Lib.hid (show WRow (w.alloc (.cells #[.string ⟨#[]⟩] 9)) w.heap.size (.slice (some ⟨w.heap.size, 0, none⟩) 1 1) (wdAt 46 s.data.toList 0) from wrow_new w)
  have HB0 := Lib.hid ((Below.refl w.heap.size w).alloc (Nat.le_refl _) (.cells #[.string ⟨#[]⟩] 9))
  go_enter Tryd.func26, Tryd.ntmps26
  go_wp2_with fail
  go_loopw [3, 4] (fun v i wr => ∃ k : Nat, k ≤ s.size ∧ i = .int .i64 k ∧ Hid (WRow wr w.heap.size v (wdAt 46 s.data.toList k)) ∧ Hid (Below w.heap.size w wr)) (fun _ i _ => s.size - (intOf i).toNat)
  case atStart => exact ⟨0, by omega, rfl, HR0, HB0⟩
  case round =>
    clear HR0 HB0
    obtain ⟨k, hk, rfl, HO, HB⟩ := hrel
    obtain ⟨v, hv⟩ : ∃ v, v = u3 := ⟨_, rfl⟩
    subst hv
    have hszo := HB.out.size
    obtain ⟨hl1, hl2⟩ := wd_len 46 s.data.toList k
    by_cases hlt : k < s.size
    · have i1 : (k : Int) < (s.size : Int) := by omega
      have i2 : k + 1 ≤ s.size := hlt
      have i3 : (k : Int) + 1 ≤ (s.size : Int) := by omega
      have i4 : k ≤ k + 1 := by omega
      have hbk := get_list s k hlt
      by_cases hc : s[k] = 46
      · have g1 := b_eq 46 rfl hc
        have HN := Lib.hid (wd_cut (show s.data.toList[k]? = some 46 by rw [hbk, hc]))
        generalize wdAt 46 s.data.toList k = ps at *
        obtain ⟨n, hn⟩ : ∃ n, ps.length = n := ⟨_, rfl⟩
        rw [hn] at hl1
        have HO2 := Lib.hid (show wr.ownsRow w.heap.size 9 1 v n (strW ps) from hn ▸ HO.out)
        have HNN := Lib.hid hn
        obtain ⟨q, cc, rfl⟩ := wown_any HO2.out
        clear hbk hc hl2 hn HO
        go_wp2_with (at_builtin; refine wpList_append_own _ rfl _ _ 40 rfl w.heap.size 9 i9 (.string ⟨#[]⟩) 1 16 Tryd.underlying40 hi9 hy0 hy1 hy2 rfl (by decide) _ _ _ rfl (HO2.out.alloc _) ⟨wr.heap.size, 0, none⟩ 1 1 [.string ⟨#[]⟩] rfl rfl ?c1 ?c2 ?c3 ?c4 ?c5 ?_)
        case c1 =>
          intro j u hj
          match j, hj with
          | 0, hj => simp at hj; subst hj; simp [Addr.add]
        case c2 => intro u hu; simp at hu; subst hu; rfl
        case c3 => unfold maxLen; omega
        case c4 => omega
        case c5 => simp; omega
        intro v' w2 hown hgr _
        have HBN := Lib.hid ((HB.out.alloc hszo _).grown hgr (by simp; omega) fun j ej => (HO2.out.lt j ej).1)
        have HON := Lib.hid (show WRow w2 w.heap.size v' (ps ++ [[]]) from WRow.more (by rw [HNN.out]; exact hown))
        clear hown hgr HO2 HB
        go_wp2_with fail
        go_roundw
        case rel => exact ⟨k + 1, hlt, by go_num, Lib.hid (by rw [HN.out]; exact HON.out), HBN⟩
        case measure => simp [intOf]; omega
      · have g1 := b_ne 46 rfl hc
        obtain ⟨ps, p, e1, e2⟩ := wd_on hbk hc
        have HN := Lib.hid e2
        rw [e1] at HO hl1 hl2
        obtain ⟨g, cap, rfl, hg1, hg2⟩ := HO.out.block (by simp)
        have hp := hl2 p (by simp)
        have hcell := HO.out.cell (j := ps.length) (p := p) (by simp)
        have hfr := HO.out.frozenAt ps.length
        have HS := Lib.hid (WRow.last (p ++ [s[k]]) HO.out).drew
        have HCAT := Lib.hid (ba_snoc s p k hlt)
        rw [← HCAT.out] at HS
        have hz1 : (mkB p).size ≤ 2097152 := by rw [mkB_size]; omega
        have hz2 : (s.extract k (k + 1)).size ≤ 2097152 := by rw [ByteArray.size_extract]; omega
        have hz3 : ¬ 9223372036854775807 < (mkB p).size + (s.extract k (k + 1)).size := by omega
        obtain ⟨n, hn⟩ : ∃ n, (ps ++ [p]).length = n := ⟨_, rfl⟩
        have hm : ps.length = n - 1 := by rw [← hn]; simp
        have hn1 : 1 ≤ n := by rw [← hn]; simp
        rw [hn] at HS hl1
        rw [hn]
        rw [hm] at hcell hfr HS
        have j0 : (0 : Int) ≤ (n : Int) - 1 := by omega
        have j1 : ((n : Int) - 1).toNat = n - 1 := by omega
        have j2 : n - 1 < n := by omega
        have j3 : (n : Int) - 1 < (n : Int) := by omega
        clear hbk hc hl2 hn hm e1 e2 HO hp
        go_wp2_with fail
        go_region
        go_wp2_with fail
        exact ⟨⟨k + 1, hlt, by go_num, Lib.hid (by rw [HN.out]; exact HS.out), Lib.hid ((HB.out.setCell (p := ⟨g, n - 1, none⟩) hg1 _).drew)⟩, by simp [intOf]; omega⟩
    · have i1 : ¬ (k : Int) < (s.size : Int) := by omega
      have hall := wd_all (c := 46) (l := s.data.toList) (k := k) (by rw [len_list]; omega)
      have HO := Lib.hid (show WRow wr w.heap.size v (partsAt 46 s.data.toList) from hall ▸ HO.out)
      obtain ⟨hl1, hl2⟩ : (partsAt 46 s.data.toList).length ≤ s.size + 1 ∧ ∀ p ∈ partsAt 46 s.data.toList, p.length ≤ s.size := by
        rw [hall] at hl1 hl2
        exact ⟨by omega, fun p hp => by have := hl2 p hp; omega⟩
      clear hall
      have hsp := last_split 46 s.data.toList
      obtain ⟨q, hq⟩ : ∃ q, lastP 46 s.data.toList = q := ⟨_, rfl⟩
      have hgl : (partsAt 46 s.data.toList).getLastD [] = q := hq
      have hrf : refPs s.data.toList = if 1 < (partsAt 46 s.data.toList).length ∧ q = [] then (partsAt 46 s.data.toList).dropLast else partsAt 46 s.data.toList := by unfold refPs; rw [hgl]
      rw [hq] at hsp
      generalize partsAt 46 s.data.toList = ps at *
      have HRF := Lib.hid hrf
      obtain ⟨g, cap, rfl, hg1, hg2⟩ := HO.out.block (by rw [hsp]; simp)
      have hcap := HO.out.cap rfl
      have hqq : (ps.dropLast ++ [q])[ps.dropLast.length]? = some q := by simp
      rw [← hsp, List.length_dropLast] at hqq
      have hcell := HO.out.cell hqq
      clear hqq
      have HST := Lib.hid HO.out.strs
      have HCL := Lib.hid (fun (j : Nat) (p : List UInt8) (hj : ps[j]? = some p) => HO.out.cell hj)
      obtain ⟨n, hn⟩ : ∃ n, ps.length = n := ⟨_, rfl⟩
      have hn1 : 1 ≤ n := by rw [← hn, hsp]; simp
      have hdl : ps.dropLast.length = n - 1 := by rw [List.length_dropLast, hn]
      have HDL := Lib.hid hdl
      rw [hn] at hcell hcap hrf HST hl1
      rw [hn] at HRF ⊢
      have HNN := Lib.hid hn
      have j0 : (0 : Int) ≤ (n : Int) - 1 := by omega
      have j1 : ((n : Int) - 1).toNat = n - 1 := by omega
      have j2 : n - 1 < n := by omega
      have j3 : (n : Int) - 1 < (n : Int) := by omega
      have j4 : n - 1 ≤ cap := by omega
      have j5 : (n : Int) - 1 ≤ (cap : Int) := by omega
      clear hsp hq hgl hrf hn hdl HO hl2
      by_cases h1 : 1 < n
      · have b1 : (1 : Int) < (n : Int) := by omega
        have b2 : decide ((1 : Int) < (n : Int)) = true := decide_eq_true b1
        have b3 : decide (1 < n) = true := decide_eq_true h1
        by_cases hq0 : q = []
        · have g2 : ((mkB q).toList == []) = true := by rw [mk_empty, hq0]; rfl
          have HF := Lib.hid (HRF.out.trans (if_pos ⟨h1, hq0⟩))
          clear HRF hq0
          go_wp2_with fail
          go_ret
          refine ⟨⟨.slice (some ⟨g, 0, none⟩) (n - 1) cap, rfl, ?_⟩, HB.out⟩
          rw [HF.out]
          refine ⟨some ⟨g, 0, none⟩, cap, by rw [HDL.out], fun i x hi => ⟨g, rfl, hg2, HCL.out i x ?_⟩⟩
          rw [List.getElem?_dropLast] at hi
          split at hi
          · exact hi
          · cases hi
        · have g2 : ((mkB q).toList == []) = false := mk_full hq0
          have HF := Lib.hid (HRF.out.trans (if_neg (fun h => hq0 h.2)))
          clear HRF hq0
          go_wp2_with fail
          go_ret
          exact ⟨⟨_, rfl, by rw [HF.out]; exact HST.out⟩, HB.out⟩
      · have b1 : ¬ (1 : Int) < (n : Int) := by omega
        have b2 : decide ((1 : Int) < (n : Int)) = false := decide_eq_false b1
        have b3 : decide (1 < n) = false := decide_eq_false h1
        have HF := Lib.hid (HRF.out.trans (if_neg (fun h => h1 h.1)))
        clear HRF
        go_wp2_with fail
        go_ret
        exact ⟨⟨_, rfl, by rw [HF.out]; exact HST.out⟩, HB.out⟩
end Go.Proofs.YtflddokngplgiaaDoor
