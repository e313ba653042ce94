import Derived.Test.YtikdncmgppckfaaDoorMB
import Derived.Test.YtikdncmgppckfaaDoorRScal
import Derived.Test.YtikdncmgppckfaaDoorGR
import Derived.Lib.AppendStr
import Derived.Lib.ConvBytes
import Derived.Test.YtikdncmgppckfaaDoorRegIn
import Derived.Deep.RegionHeld3
import Derived.Deep.AppendLies
import Derived.Deep.CutRange
/-
  The contracts of the document's written and read (bastionref11).
-/
namespace Go.Proofs.YtikdncmgppckfaaDoor
open Go.RowKit
theorem infoByte' : (Tryd.prog.info? 5).map (fun i => (i.zero, i.size, i.bytes)) = some (some (.int .u8 0), 1, 1) := by kernel_rfl
theorem ownY_to {B : Nat} {v : Value} {l : List UInt8} {w w' : World} (h : OwnY B v l w) (hb : Below w.heap.size w w') : OwnY B v l w' := Ks.own_to h hb
theorem ext_one (u : ByteArray) (k : Nat) (h : k < u.size) : (u.extract k (k + 1)).data.toList = [u[k]] := by
  rw [ByteArray.data_extract, Array.toList_extract]
  unfold List.extract
  rw [show k + 1 - k = 1 by omega]
  have e : u.data.toList.drop k = u[k] :: u.data.toList.drop (k + 1) := drop_cons u k h
  rw [e]; rfl
theorem flat_snoc (f : UInt8 → List UInt8) (u : ByteArray) (k : Nat) (h : k < u.size) : (u.data.toList.take (k + 1)).flatMap f = (u.data.toList.take k).flatMap f ++ f u[k] := by
  rw [ltg u k h, List.flatMap_append]; simp
theorem wr1_len (l : List UInt8) : (l.flatMap wr1).length ≤ 3 * l.length := by
  induction l with
  | nil => simp
  | cons b l ih =>
    rw [List.flatMap_cons, List.length_append, List.length_cons]
    have : (wr1 b).length ≤ 3 := by
      unfold wr1 M.enc1
      split
      · simp
      · split <;> simp
    omega
set_option maxRecDepth 100000 in
set_option maxHeartbeats 2000000 in
theorem rwritten (s : ByteArray) (T : List UInt8) (hT : wrT s.data.toList = T) (hs : s.size ≤ 4294967296) (w : World) :
    Calls Tryd.prog 28 #[.string s] w fun e w' => (∃ v, e = .returned v ∧ OwnY w.heap.size v T w') ∧ Below w.heap.size w w' := by
  obtain ⟨i0, hi, hz0, hz1, hz2⟩ := info_parts infoByte'
  obtain ⟨u, hu⟩ : ∃ u : ByteArray, u = ⟨(U.scal s.data.toList).toArray⟩ := ⟨_, rfl⟩
  have hul : u.data.toList = U.scal s.data.toList := by rw [hu]
  have husz : u.size ≤ 4 * s.size := by
    rw [← len_list u, hul]
    have := scal_len s.data.toList
    rw [len_list] at this
    exact this
  have HS := Lib.hid (fun W => rscalar_is s (U.scal s.data.toList) rfl (by omega) W)
  rw [← hu] at HS
  have HT := Lib.hid (show u.data.toList.flatMap wr1 = T by rw [hul, ← wr_flat]; exact hT)
  clear hu hul hT
  go_enter Tryd.func28, Tryd.ntmps28
  go_wp2_with fail
  refine (HS.out _).mono ?_
  rintro e w1 ⟨rfl, hb1⟩
  have HB1 := Lib.hid hb1
  clear hb1
  go_wp2_with fail
  go_loopw [3, 4] (fun v i wr => ∃ (k : Nat), k ≤ u.size ∧ i = .int .i64 k ∧ Hid (OwnY w.heap.size v ((u.data.toList.take k).flatMap wr1) wr) ∧ Hid (Below w.heap.size w wr)) (fun _ i _ => u.size - (intOf i).toNat)
  case atStart => exact ⟨0, by omega, rfl, Lib.hid (World.ownsRow_nil _ _ _ _), HB1⟩
  case round =>
    obtain ⟨k, hk, rfl, HO, HB⟩ := hrel
    have hsz := HB.out.size
    by_cases hlt : k < u.size
    · have HE := Lib.hid (flat_snoc wr1 u k hlt)
      have HX := Lib.hid (ext_one u k hlt)
      have hlen : ((u.data.toList.take k).flatMap wr1).length ≤ 3 * k := by
        have := wr1_len (u.data.toList.take k)
        rw [List.length_take_of_le (by rw [len_list]; omega)] at this
        exact this
      generalize (u.data.toList.take k).flatMap wr1 = acc at *
      have hxs : (u.extract k (k + 1)).size = 1 := by rw [← len_list, HX.out]; rfl
      by_cases hb : u[k] = 32
      · have hbi : ((u[k].toNat : Int) == 32) = true := by rw [hb]; rfl
        go_wp2_with (at_builtin; refine wpList_append_own _ rfl _ _ 45 rfl w.heap.size 5 i0 (.int .u8 0) 1 1 Tryd.underlying45 hi hz0 hz1 hz2 rfl (by decide) _ _ _ rfl (HO.out.alloc _) ⟨wr.heap.size, 0, none⟩ 1 1 [.int .u8 43] rfl rfl (lit_one _ _) (one_cell _) (by unfold maxLen; omega) (by omega) (by simp; omega) ?_; intro v' w2 hown' hgrow _; have HO2 := Lib.hid hown'; have HB2 := Lib.hid (show Below w.heap.size w w2 from (HB.out.alloc (by omega) _).grown hgrow (by simp; omega) (fun k hk => (HO.out.lt k hk).1)); clear hown' hgrow)
        go_roundw
        case rel => exact ⟨k + 1, by omega, by go_num, Lib.hid (by rw [HE.out]; unfold wr1; rw [if_pos hb]; exact ownY_snoc (c := 43) HO2.out), HB2⟩
        case measure => simp [intOf]; omega
      · have hbi : ((u[k].toNat : Int) == 32) = false := by
          rw [beq_eq_false_iff_ne]; intro e; exact hb (UInt8.toNat_inj.1 (by show _ = 32; omega))
        have HEN := Lib.hid (fun W => rencode (u.extract k (k + 1)) (by rw [hxs]; decide) 8 (by decide) (by decide) W)
        obtain ⟨t, ht⟩ : ∃ t : ByteArray, t = ⟨(M.enc 8 (u.extract k (k + 1)).data.toList).toArray⟩ := ⟨_, rfl⟩
        have htl : t.data.toList = wr1 u[k] := by
          rw [ht]
          show M.enc 8 _ = _
          rw [HX.out]
          unfold wr1
          rw [if_neg hb]
          simp [M.enc]
        have hts : t.size ≤ 3 := by
          rw [← len_list, htl]
          unfold wr1 M.enc1
          split
          · simp
          · split <;> simp
        rw [← ht] at HEN
        have HTL := Lib.hid htl
        clear ht htl
        go_wp2_with fail
        refine (HEN.out _).mono ?_
        rintro e w2 ⟨rfl, hb2⟩
        have HB2 := Lib.hid (bel2 HB.out hb2)
        have HO2 := Lib.hid (ownY_to HO.out hb2)
        clear hb2
        have hs2 := HB2.out.size
        go_wp2_with (at_builtin; refine Lib.wpList_append_own_string _ rfl _ _ 45 9 rfl w.heap.size 5 i0 Tryd.underlying45 Tryd.underlying9 hi hz0 hz1 hz2 _ _ _ rfl HO2.out t rfl (by unfold maxLen; omega) (by omega) (by omega) ?_; intro v' w3 hown' hgrow _; have HO3 := Lib.hid hown'; have HB3 := Lib.hid (show Below w.heap.size w w3 from HB2.out.grown hgrow (by omega) (fun k hk => (HO2.out.lt k hk).1)); clear hown' hgrow)
        go_roundw
        case rel => exact ⟨k + 1, by omega, by go_num, Lib.hid (by
          rw [HE.out, ← HTL.out]
          have := HO3.out
          rw [← len_list t] at this
          exact own_app this), HB3⟩
        case measure => simp [intOf]; omega
    · have HF := Lib.hid (show (u.data.toList.take k).flatMap wr1 = T by rw [List.take_of_length_le (by rw [len_list]; omega)]; exact HT.out)
      go_wp2
      go_ret
      exact ⟨⟨_, rfl, by rw [← HF.out]; exact HO.out⟩, HB.out⟩
theorem rpl_plus (l : List UInt8) : rpl [43] [32] l = l.map (fun b => if b = 43 then 32 else b) := by
  induction l with
  | nil => exact rpl_nil _ _ (by simp)
  | cons b l ih =>
    rw [List.map_cons, ← ih]
    by_cases hb : b = 43
    · rw [if_pos hb, hb]
      exact rpl_hit [43] [32] (by simp) l
    · rw [if_neg hb]
      exact rpl_miss _ _ (by simp) _ _ (pre_false (Ne.symm hb))
end Go.Proofs.YtikdncmgppckfaaDoor
/-
  The contract of the document's read (bastionref11): rdT.
-/
namespace Go.Proofs.YtikdncmgppckfaaDoor
open Go.RowKit
theorem M.dec_len' : ∀ (n : Nat) (l : List UInt8), l.length ≤ n → (M.dec l).length ≤ l.length
  | _, [], _ => Nat.le_refl _
  | n + 1, c :: r, h => by
    cases he : M.escL (c :: r) with
    | some v =>
      obtain ⟨h3, e⟩ := M.dec_some he
      have := M.dec_len' n ((c :: r).drop 3) (by simp at h ⊢; omega)
      rw [e]
      simp only [List.length_cons, List.length_drop] at this h3 ⊢
      omega
    | none =>
      rw [M.dec_none he]
      have := M.dec_len' n r (by simp at h; omega)
      simp only [List.length_cons]; omega
theorem M.dec_len (l : List UInt8) : (M.dec l).length ≤ l.length := M.dec_len' _ l (Nat.le_refl _)
/-- a row that a string was turned into -/
def RowY (w : World) (g : Nat) (l : List UInt8) (rest : List Value) : Prop := w.heap[g]? = some (.cells (Lib.byteCells l ++ rest).toArray 5 ((Lib.byteCells l ++ rest).length, (Lib.byteCells l ++ rest).length + 1))
section
variable {w : World} {g : Nat} {l : List UInt8} {rest : List Value}
theorem RowY.cell (h : RowY w g l rest) {k : Nat} {c : UInt8} (hc : l[k]? = some c) : w.cell? ⟨g, k, none⟩ = some (.int .u8 c.toNat) := by
  unfold RowY at h
  rw [cell_of_row _ _ _ _ _ _ h, List.getElem?_toArray, List.getElem?_append_left (by rw [Lib.byteCells_length]; exact (List.getElem?_eq_some_iff.1 hc).1)]
  simp [Lib.byteCells, hc]
theorem RowY.free (h : RowY w g l rest) {k : Nat} (hk : k < l.length) : w.frozen? ⟨g, k, none⟩ = false := by
  unfold RowY at h
  have : (Lib.byteCells l ++ rest).length = l.length + rest.length := by rw [List.length_append, Lib.byteCells_length]
  simp only [World.frozen?, h]
  rw [Bool.and_eq_false_iff]
  refine .inl (decide_eq_false ?_)
  rw [this]; show ¬ (_ ≤ k); omega
theorem RowY.store (h : RowY w g l rest) (k : Nat) (hk : k < l.length) (c : UInt8) : RowY (w.setCell ⟨g, k, none⟩ (.int .u8 c.toNat)) g (l.set k c) rest := by
  unfold RowY at h ⊢
  have e : Lib.byteCells (l.set k c) ++ rest = (Lib.byteCells l ++ rest).set k (.int .u8 c.toNat) := by
    rw [List.set_append_left _ _ (by rw [Lib.byteCells_length]; exact hk)]
    congr 1
    simp [Lib.byteCells, List.map_set]
  rw [e, List.length_set]
  simp [World.setCell, Array.getElem?_modify, h]
theorem RowY.lt (h : RowY w g l rest) : g < w.heap.size := (Array.getElem?_eq_some_iff.1 h).1
end
theorem rowY_new (w : World) (s : ByteArray) : ∃ rest, RowY (Lib.bytesWorld w 5 s) w.heap.size s.data.toList rest := by
  refine ⟨List.replicate (grownCap w s.size 0 5 - s.size) (.int .u8 0), ?_⟩
  unfold RowY
  have h := Lib.bytesWorld_at_new w 5 s
  have e : Lib.bytesCells w 5 s = (Lib.byteCells s.data.toList ++ List.replicate (grownCap w s.size 0 5 - s.size) (Value.int .u8 0)).toArray := by
    unfold Lib.bytesCells Lib.byteCells
    apply Array.ext'
    simp
  rw [e, List.size_toArray] at h
  exact h
theorem below_bytes (w : World) (s : ByteArray) : Below w.heap.size w (Lib.bytesWorld w 5 s) := by
  refine ⟨?_, ?_, ?_, by rw [Lib.bytesWorld_size]; omega, fun k hk => Lib.bytesWorld_at_old w 5 s k hk⟩
  all_goals
    simp [Lib.bytesWorld, World.freeze, World.alloc, World.drew, -World.alloc_eq, -World.drew_eq]
def plus (b : UInt8) : UInt8 := if b = 43 then 32 else b
theorem plus_step (l : List UInt8) (k : Nat) (h : k < l.length) (c : UInt8) (hc : plus l[k] = c) : ((l.take k).map plus ++ l.drop k).set k c = (l.take (k + 1)).map plus ++ l.drop (k + 1) := by
  rw [List.set_append_right _ _ (by rw [List.length_map, List.length_take]; omega), List.length_map, List.length_take_of_le (by omega), Nat.sub_self, List.drop_eq_getElem_cons h, List.set_cons_zero, List.take_succ_eq_append_getElem h, List.map_append, ← hc]
  simp
theorem plus_at (l : List UInt8) (k : Nat) (h : k < l.length) : ((l.take k).map plus ++ l.drop k)[k]? = some l[k] := by
  rw [List.getElem?_append_right (by rw [List.length_map, List.length_take]; omega), List.length_map, List.length_take_of_le (by omega), Nat.sub_self, List.getElem?_drop]
  simp [h]
theorem plus_same (l : List UInt8) (k : Nat) (h : k < l.length) (hp : plus l[k] = l[k]) : (l.take k).map plus ++ l.drop k = (l.take (k + 1)).map plus ++ l.drop (k + 1) := by
  rw [List.take_succ_eq_append_getElem h, List.map_append, List.drop_eq_getElem_cons h]
  simp [hp]
set_option maxRecDepth 100000 in
set_option maxHeartbeats 2000000 in
theorem rread (s : ByteArray) (T : List UInt8) (hT : rdT s.data.toList = T) (hs : s.size ≤ 4294967296) (w : World) :
    Calls Tryd.prog 54 #[.string s] w fun e w' => e = .returned (.string ⟨T.toArray⟩) ∧ Below w.heap.size w w' := by
  have hconv := Lib.run_convert_string_bytes w 9 45 5 s Tryd.underlying9 Tryd.underlying45 Tryd.underlying5
  obtain ⟨rest, hrow⟩ := rowY_new w s
  have HR0 := Lib.hid hrow
  have HB0 := Lib.hid (below_bytes w s)
  have HT := Lib.hid hT
  obtain ⟨W, hW⟩ : ∃ W, Lib.bytesWorld w 5 s = W := ⟨_, rfl⟩
  obtain ⟨G, hG⟩ : ∃ G, grownCap w s.size 0 5 = G := ⟨_, rfl⟩
  rw [hW] at hconv HR0 HB0
  rw [hG] at hconv
  have HLS := Lib.hid (len_list s)
  clear hrow hT hW hG
  go_enter Tryd.func54, Tryd.ntmps54
  go_wp2_with fail
  go_loopw [4, 9] (fun _ i wr => ∃ (k : Nat), k ≤ s.size ∧ i = .int .i64 k ∧ Hid (RowY wr w.heap.size ((s.data.toList.take k).map plus ++ s.data.toList.drop k) rest) ∧ Hid (Below w.heap.size w wr)) (fun _ i _ => s.size - (intOf i).toNat)
  case atStart => exact ⟨0, by omega, rfl, HR0, HB0⟩
  case round =>
    obtain ⟨k, hk, rfl, HR, HB⟩ := hrel
    have hkl : (s.data.toList.take k).length = k := List.length_take_of_le (by rw [HLS.out]; omega)
    by_cases hlt : k < s.size
    · have hll : k < s.data.toList.length := by rw [HLS.out]; exact hlt
      have hc := HR.out.cell (plus_at s.data.toList k hll)
      have hf := HR.out.free (k := k) (by rw [List.length_append, List.length_map, hkl, List.length_drop]; omega)
      have HST := Lib.hid (fun c h => plus_step s.data.toList k hll c h)
      have HRS := Lib.hid (fun c => HR.out.store k (by rw [List.length_append, List.length_map, hkl, List.length_drop]; omega) c)
      have HSP := Lib.hid (plus_same s.data.toList k hll)
      have hcu : (s.data.toList[k]).toNat < 256 := (s.data.toList[k]).toNat_lt
      generalize s.data.toList[k] = b at *
      by_cases hb : b = 43
      · subst hb
        go_wp2
        go_roundw
        case rel => exact ⟨k + 1, by omega, by go_num, Lib.hid (by have := HRS.out 32; rw [HST.out 32 rfl] at this; exact this), Lib.hid (HB.out.setCell (p := ⟨w.heap.size, k, none⟩) (Nat.le_refl _) _)⟩
        case measure => simp [intOf]; omega
      · have hbi : ((b.toNat : Int) == 43) = false := by
          rw [beq_eq_false_iff_ne]; intro e; exact hb (UInt8.toNat_inj.1 (by show _ = 43; omega))
        have HSE := Lib.hid (HSP.out (by unfold plus; rw [if_neg hb]))
        go_wp2
        go_roundw
        case rel => exact ⟨k + 1, by omega, by go_num, Lib.hid (by rw [← HSE.out]; exact HR.out), HB⟩
        case measure => simp [intOf]; omega
    · obtain ⟨mm, hM⟩ : ∃ mm, s.data.toList.map plus = mm := ⟨_, rfl⟩
      have hml : mm.length = s.size := by rw [← hM, List.length_map, HLS.out]
      have HRM := Lib.hid (show RowY wr w.heap.size mm rest by
        have := HR.out
        rw [List.take_of_length_le (by rw [HLS.out]; omega), List.drop_eq_nil_of_le (by rw [HLS.out]; omega), List.append_nil, hM] at this
        exact this)
      have hback := run_convert_bytes_back wr 45 9 5 ⟨w.heap.size, 0, none⟩ G mm Tryd.underlying45 Tryd.underlying5 Tryd.underlying9 (fun j hj => by rw [Addr.add_lit, Nat.zero_add]; exact HRM.out.cell (List.getElem?_eq_getElem hj))
      rw [hml] at hback
      obtain ⟨m, hm⟩ : ∃ m : ByteArray, m = ⟨mm.toArray⟩ := ⟨_, rfl⟩
      have hmL : m.data.toList = mm := by rw [hm]
      have hms : m.size = s.size := by rw [← len_list, hmL, hml]
      rw [← hm] at hback
      have HD := Lib.hid (fun W => rdecode m (by omega) W)
      obtain ⟨d, hd⟩ : ∃ d : ByteArray, d = ⟨(M.dec m.data.toList).toArray⟩ := ⟨_, rfl⟩
      have hdl : d.data.toList = M.dec m.data.toList := by rw [hd]
      have hds : d.size ≤ m.size := by
        rw [← len_list d, hdl, ← len_list m]
        exact M.dec_len _
      have HD2 := Lib.hid (show U.scal d.data.toList = T by
        rw [hdl, hmL, ← hM, ← HT.out]
        unfold rdT
        rw [rpl_plus]
        rfl)
      have HDD := Lib.hid (fun W => show Calls Tryd.prog 79 #[.string m] W fun e w' => e = .returned (.string d) ∧ Below W.heap.size W w' from by rw [hd]; exact HD.out W)
      have HSC := Lib.hid (fun W => rscalar_is d T HD2.out (by omega) W)
      clear hM hml hm hmL hd hdl HD HR hkl
      go_wp2_with fail
      refine (HDD.out _).mono ?_
      rintro e w2 ⟨rfl, hb2⟩
      have HB2 := Lib.hid (bel2 HB.out hb2)
      clear hb2
      go_wp2_with fail
      refine (HSC.out _).mono ?_
      rintro e w3 ⟨rfl, hb3⟩
      have HB3 := Lib.hid (bel2 HB2.out hb3)
      clear hb3
      go_wp2
      go_ret
      exact ⟨rfl, HB3.out⟩
end Go.Proofs.YtikdncmgppckfaaDoor
/-
  The contract of the document's pair (bastionref11): fdOf.
-/
namespace Go.Proofs.YtikdncmgppckfaaDoor
open Go.RowKit
theorem cut_none (p : List UInt8) (h : (61 : UInt8) ∉ p) : Lib.cut p [61] = (p, [], false) := by
  have hi : Lib.index p [61] = -1 := by
    refine Lib.index_none fun j hj => ?_
    unfold Lib.occAt
    rcases Nat.lt_or_ge j p.length with hl | hl
    · rw [List.drop_eq_getElem_cons hl]
      exact pre_false (fun e => h (by rw [e]; exact List.getElem_mem hl))
    · rw [List.drop_eq_nil_of_le hl]; rfl
  unfold Lib.cut
  rw [hi, if_neg (by omega)]
theorem split_at (p : List UInt8) (k : Nat) (hk : k < p.length) (h : (61 : UInt8) ∉ p.take k) (he : p[k] = 61) : Lib.cut p [61] = (p.take k, p.drop (k + 1), true) := by
  have e : p = p.take k ++ 61 :: p.drop (k + 1) := by
    conv => lhs; rw [← List.take_append_drop k p, List.drop_eq_getElem_cons hk, he]
  conv => lhs; rw [e]
  exact cut_at _ _ h
theorem info38 : (Tryd.prog.info? 38).map (·.size) = some 2 := by kernel_rfl
def VR (s : ByteArray) (k : Nat) (A B : ByteArray) (i : Nat) (x : Value) (_ : World) : Prop :=
  match i with
  | 0 => x = .string s
  | 1 => x = .int .i64 k
  | 2 => x = .string (s.extract 0 k)
  | 3 => x = .string A
  | 4 => x = .string s
  | 5 => x = .int .i64 k
  | 6 => x = .int .i64 ((k + 1 : Nat) : Int)
  | 7 => x = .string (s.extract (k + 1) s.size)
  | _ => x = .string B
theorem VR_mono (s : ByteArray) (k : Nat) (A B : ByteArray) : ∀ (i : Nat) (x : Value) (w w' : World), VR s k A B i x w → Below w.heap.size w w' → VR s k A B i x w'
  | 0, _, _, _, h, _ => h
  | 1, _, _, _, h, _ => h
  | 2, _, _, _, h, _ => h
  | 3, _, _, _, h, _ => h
  | 4, _, _, _, h, _ => h
  | 5, _, _, _, h, _ => h
  | 6, _, _, _, h, _ => h
  | 7, _, _, _, h, _ => h
  | _ + 8, _, _, _, h, _ => h
set_option maxRecDepth 100000 in
set_option maxHeartbeats 4000000 in
theorem rpair (s : ByteArray) (A B : ByteArray) (hAB : Ks.fdOf s.data.toList = (A, B)) (hs : s.size ≤ 65536) (w : World) :
    Calls Tryd.prog 32 #[.string s] w fun e w' => e = .returned (.agg #[.string A, .string B]) ∧ Below w.heap.size w w' := by
  have HN := Lib.hid (heap_alloc_new w (.cells #[.string ⟨#[]⟩, .string ⟨#[]⟩] 38))
  have HB0 := Lib.hid (bnew w (.cells #[.string ⟨#[]⟩, .string ⟨#[]⟩] 38))
  have HAB := Lib.hid hAB
  have HLS := Lib.hid (len_list s)
  clear hAB
  go_enter Tryd.func32, Tryd.ntmps32
  go_wp2_with fail
  go_loopw [3] (fun i wr => ∃ (k : Nat), k ≤ s.size ∧ i = .int .i64 k ∧ Hid ((61 : UInt8) ∉ s.data.toList.take k) ∧ wr = w.alloc (.cells #[.string ⟨#[]⟩, .string ⟨#[]⟩] 38)) (fun i _ => s.size - (intOf i).toNat)
  case atStart => exact ⟨0, by omega, rfl, Lib.hid (by simp), rfl⟩
  case round =>
    obtain ⟨k, hk, rfl, HNO, rfl⟩ := hrel
    by_cases hlt : k < s.size
    · have HTK := Lib.hid (ltg s k hlt)
      by_cases hb : s[k] = 61
      · have hbi : ((s[k].toNat : Int) == 61) = true := by rw [hb]; rfl
        have hcut := split_at s.data.toList k (by rw [HLS.out]; exact hlt) HNO.out hb
        have hfd := HAB.out
        unfold Ks.fdOf at hfd
        rw [hcut] at hfd
        simp only [Prod.mk.injEq] at hfd
        have hx1 : (s.extract 0 k).data.toList = s.data.toList.take k := Ks.ext_take s k
        have hx2 : (s.extract (k + 1) s.size).data.toList = s.data.toList.drop (k + 1) := extract_list s (k + 1)
        have HA := Lib.hid (fun W => show Calls Tryd.prog 54 #[.string (s.extract 0 k)] W fun e w' => e = .returned (.string A) ∧ Below W.heap.size W w' from by
          rw [← hfd.1]
          exact rread (s.extract 0 k) _ (by rw [hx1]) (by rw [← len_list, hx1, List.length_take]; have := HLS.out; omega) W)
        have HB := Lib.hid (fun W => show Calls Tryd.prog 54 #[.string (s.extract (k + 1) s.size)] W fun e w' => e = .returned (.string B) ∧ Below W.heap.size W w' from by
          rw [← hfd.2]
          exact rread (s.extract (k + 1) s.size) _ (by rw [hx2]) (by rw [← len_list, hx2, List.length_drop]; have := HLS.out; omega) W)
        have j1 : IntKind.i64.wrap ((k : Int) + 1) = (k : Int) + 1 := IntWalk.i64_in _ (by omega)
        have j5 : k ≤ s.size := hk
        have j6 : k + 1 ≤ s.size := by omega
        clear hcut hfd hx1 hx2
        go_wp2_with fail
        refine (wpIn_wide (n := 0)).1 ?_
        refine wpIn_region_tail (by kernel_rfl) 9 (by decide) (fun i => 14 + i) (VR s k A B) (fun w' => Below (w.alloc (.cells #[.string ⟨#[]⟩, .string ⟨#[]⟩] 38)).heap.size (w.alloc (.cells #[.string ⟨#[]⟩, .string ⟨#[]⟩] 38)) w') ?hlt ?hinj (by kernel_rfl) (by kernel_rfl) (VR_mono _ _ _ _) (fun _ _ h h' => h.trans (h'.mono h.size)) ?h0 ?hop ?htail
        case hlt => intro i hi; simp only [List.size_toArray, List.length_cons, List.length_nil]; omega
        case hinj => intro i j _ _ h; simpa using h
        case h0 => exact Below.drew (Below.refl _ _)
        case hop =>
          intro i o hi ho a w' hF hg hd
          have hcase : i = 0 ∨ i = 1 ∨ i = 2 ∨ i = 3 ∨ i = 4 ∨ i = 5 ∨ i = 6 ∨ i = 7 ∨ i = 8 := by omega
          have h0 : a.eval (.tmp 0) = .string s := (hF.2.2 0 (fun i _ => by show 14 + i ≠ 0; omega)).trans rfl
          have h3 : a.eval (.tmp 3) = .int .i64 k := (hF.2.2 3 (fun i _ => by show 14 + i ≠ 3; omega)).trans rfl
          have HD0 := Lib.hid hd
          clear hd hF hg
          rcases hcase with rfl | rfl | rfl | rfl | rfl | rfl | rfl | rfl | rfl
          all_goals
            simp only [List.getElem?_toArray, List.getElem?_cons_zero, List.getElem?_cons_succ, Option.some.injEq] at ho
            subst ho
            have hd := HD0.out
            simp [Region.binds, VR] at hd
            refine ⟨rfl, ?_⟩
            unfold Oper.wpIn
            refine ⟨fun _ _ => trivial, ?_⟩
            rw [Oper.semAt_plain Fence.wide _ _ (by intro c hc'; cases hc')]
          · simp [execOp, h0, Oper.uponIn]
            exact ⟨_, rfl, rfl, Below.refl _ _⟩
          · simp [execOp, h3, Oper.uponIn]
            exact ⟨_, rfl, rfl, Below.refl _ _⟩
          · simp [execOp, hd]
            simp [go_sem, Oper.uponIn]
            rw [if_pos (by omega)]
            exact ⟨_, rfl, rfl, Below.refl _ _⟩
          · simp [execOp, resolve, invoke, hd]
            simp [go_sem, Oper.uponIn]
            refine ⟨rfl, (callsIn_wide.2 (HA.out w')).mono ?_⟩
            rintro e w5 ⟨rfl, hb5⟩
            exact ⟨_, rfl, rfl, hb5⟩
          · simp [execOp, h0, Oper.uponIn]
            exact ⟨_, rfl, rfl, Below.refl _ _⟩
          · simp [execOp, h3, Oper.uponIn]
            exact ⟨_, rfl, rfl, Below.refl _ _⟩
          · simp [execOp, hd]
            simp [go_sem, Oper.uponIn]
            refine ⟨_, rfl, ?_, Below.refl _ _⟩
            show Value.int _ _ = _
            rw [j1]; rfl
          · simp [execOp, hd]
            simp [go_sem, Oper.uponIn]
            rw [if_pos (show (0 : Int) ≤ (k : Int) + 1 ∧ (k : Int) + 1 ≤ (s.size : Int) from ⟨by omega, by omega⟩)]
            exact ⟨_, rfl, rfl, Below.refl _ _⟩
          · simp [execOp, resolve, invoke, hd]
            simp [go_sem, Oper.uponIn]
            refine ⟨rfl, (callsIn_wide.2 (HB.out w')).mono ?_⟩
            rintro e w5 ⟨rfl, hb5⟩
            exact ⟨_, rfl, rfl, hb5⟩
        case htail =>
          intro a w' hF hg hv
          have h2 : a.eval (.tmp 2) = .pointer (some ⟨w.heap.size, 0, none⟩) := (hF.2.2 2 (fun i _ => by show 14 + i ≠ 2; omega)).trans rfl
          have h17 : a.eval (.tmp 17) = .string A := hv 3 (by omega)
          have h22 : a.eval (.tmp 22) = .string B := hv 8 (by omega)
          have hsz : a.tmps.size = 27 := hF.1
          have hrow : Has w' w.heap.size (.cells #[.string ⟨#[]⟩, .string ⟨#[]⟩] 38) := Has.to HN.out hg
          have c0 := hrow.cell 0 rfl
          have c1 := hrow.cell 1 rfl
          have f0 := hrow.free 0
          have f1 := hrow.free 1
          have HBF := Lib.hid (((HB0.out.trans (hg.mono (by simp))).setCell (p := ⟨w.heap.size, 0, none⟩) (Nat.le_refl _) (.string A)).setCell (p := ⟨w.heap.size, 1, none⟩) (Nat.le_refl _) (.string B))
          refine Ks.opsIn_cons (o := _) rfl rfl ?_
          unfold Oper.wpIn
          refine ⟨fun _ _ => trivial, ?_⟩
          rw [Oper.semAt_plain Fence.wide _ _ (by intro c hc'; cases hc')]
          simp [execOp, h17, h22]
          simp [go_sem, Oper.uponIn]
          refine Ks.opsIn_cons (o := _) rfl rfl ?_
          unfold Oper.wpIn
          refine ⟨fun _ _ => trivial, ?_⟩
          rw [Oper.semAt_plain Fence.wide _ _ (by intro c hc'; cases hc')]
          have h2v : a.tmps[2]?.getD undef = .pointer (some ⟨w.heap.size, 0, none⟩) := by have := h2; unfold Act.eval at this; simpa using this
          have hlt23 : 23 < a.tmps.size := by omega
          simp [execOp]
          simp [go_sem, Oper.uponIn]
          simp [h2v, hlt23, go_sem, storeCells, c0, c1, f0, f1]
          have hdf : a.defers = [] := hF.2.1
          rw [hdf]
          have hT2 : (a.tmps.setIfInBounds 23 (.agg #[.string A, .string B])).getD 2 undef = .pointer (some ⟨w.heap.size, 0, none⟩) := by simpa using h2v
          generalize a.tmps.setIfInBounds 23 (.agg #[.string A, .string B]) = TT at *
          refine ‹∀ (a : Act) (w : World), Code.wp Tryd.prog Code.ret _ a w → _› _ _ ?_
          have hW := ((hrow.set 0 (.string A)).set 1 (.string B))
          have hW2 : Has ((w'.setCell ⟨w.heap.size, 0, none⟩ (.string A)).setCell ⟨w.heap.size, 1, none⟩ (.string B)) w.heap.size (.cells #[.string A, .string B] 38) := hW
          generalize (w'.setCell ⟨w.heap.size, 0, none⟩ (.string A)).setCell ⟨w.heap.size, 1, none⟩ (.string B) = WF at *
          go_wp2
          exact bodyPost_ret (v := .agg #[.string A, .string B]) (results_cell_row rfl _ _ w.heap.size 38 _ (0, 0) _ hT2 hW2 Tryd.underlying38 rfl info38) rfl ⟨rfl, HBF.out⟩
      · have hbi : ((s[k].toNat : Int) == 61) = false := by
          rw [beq_eq_false_iff_ne]; intro e; exact hb (UInt8.toNat_inj.1 (by show _ = 61; omega))
        go_wp2
        go_roundw
        case rel => exact ⟨k + 1, by omega, by go_num, Lib.hid (by
          rw [HTK.out]
          intro h
          rcases List.mem_append.1 h with h | h
          · exact HNO.out h
          · rw [List.mem_singleton] at h; exact hb h.symm), trivial⟩
        case measure => simp [intOf]; omega
    · have hno : (61 : UInt8) ∉ s.data.toList := by
        have := HNO.out
        rw [List.take_of_length_le (by rw [HLS.out]; omega)] at this
        exact this
      have hfd := HAB.out
      unfold Ks.fdOf at hfd
      rw [cut_none _ hno] at hfd
      simp only [Prod.mk.injEq] at hfd
      have hB2 : B = ⟨#[]⟩ := by rw [← hfd.2]; rfl
      subst hB2
      have HA := Lib.hid (fun W => show Calls Tryd.prog 54 #[.string s] W fun e w' => e = .returned (.string A) ∧ Below W.heap.size W w' from by
        rw [← hfd.1]
        exact rread s _ rfl (by omega) W)
      clear hfd
      go_wp2_with fail
      refine (HA.out _).mono ?_
      rintro e w3 ⟨rfl, hb3⟩
      have hrow : Has w3 w.heap.size (.cells #[.string ⟨#[]⟩, .string ⟨#[]⟩] 38) := Has.to HN.out hb3
      have c0 := hrow.cell 0 rfl
      have c1 := hrow.cell 1 rfl
      have f0 := hrow.free 0
      have f1 := hrow.free 1
      have HBF := Lib.hid (((HB0.out.trans (hb3.mono (by simp))).setCell (p := ⟨w.heap.size, 0, none⟩) (Nat.le_refl _) (.string A)).setCell (p := ⟨w.heap.size, 1, none⟩) (Nat.le_refl _) (.string ⟨#[]⟩))
      have HW2 := Lib.hid (show Has ((w3.setCell ⟨w.heap.size, 0, none⟩ (.string A)).setCell ⟨w.heap.size, 1, none⟩ (.string ⟨#[]⟩)) w.heap.size (.cells #[.string A, .string ⟨#[]⟩] 38) from (hrow.set 0 (.string A)).set 1 (.string ⟨#[]⟩))
      clear hb3 hrow
      go_wp2
      exact bodyPost_ret (v := .agg #[.string A, .string ⟨#[]⟩]) (results_cell_row rfl _ _ w.heap.size 38 _ (0, 0) _ rfl HW2.out Tryd.underlying38 rfl info38) rfl ⟨rfl, HBF.out⟩
end Go.Proofs.YtikdncmgppckfaaDoor
/-
  The contract of the document's Parse (bastionref11): parL, parI.
-/
namespace Go.Proofs.YtikdncmgppckfaaDoor
open Go.RowKit
theorem ext_mid (s : ByteArray) (a b : Nat) (h : b ≤ s.size) : (s.extract a b).data.toList = (s.data.toList.take b).drop a := by
  rw [ByteArray.data_extract, Array.toList_extract]
  unfold List.extract
  rw [List.drop_take]
theorem part_hit (L : List UInt8) (f k : Nat) (hf : f ≤ k) (hk : k < L.length) (hb : L[k] = 38) (hn : (38 : UInt8) ∉ (L.take k).drop f) : Ks.partsAt 38 (L.drop f) = (L.take k).drop f :: Ks.partsAt 38 (L.drop (k + 1)) := by
  have e : L.drop f = (L.take k).drop f ++ 38 :: L.drop (k + 1) := by
    have e1 : L = L.take k ++ 38 :: L.drop (k + 1) := by
      conv => lhs; rw [← List.take_append_drop k L, List.drop_eq_getElem_cons hk, hb]
    conv => lhs; rw [e1]
    rw [List.drop_append_of_le_length (by rw [List.length_take]; omega)]
  rw [e]
  exact Ks.partsAt_hit 38 _ _ hn
theorem part_last (L : List UInt8) (f : Nat) (hn : (38 : UInt8) ∉ (L.take L.length).drop f) : Ks.partsAt 38 (L.drop f) = [(L.take L.length).drop f] := by
  rw [List.take_length] at hn ⊢
  exact Ks.partsAt_miss 38 _ hn
theorem fds_cons (p : List UInt8) (r : List (List UInt8)) : Ks.fdsOf (p :: r) = (if p = [] then [] else [Ks.fdOf p]) ++ Ks.fdsOf r := by
  unfold Ks.fdsOf
  rw [List.filter_cons]
  by_cases h : p = []
  · subst h; rfl
  · have : (!p.isEmpty) = true := by simp [h]
    rw [if_pos this, if_neg h]; rfl
/-- what the loop holds -/
def PInv (L : List UInt8) (f k : Nat) (D : List Fd) : Prop :=
  D.length ≤ k ∧ ((k ≤ L.length ∧ f ≤ k ∧ (38 : UInt8) ∉ (L.take k).drop f ∧ paL L = D ++ Ks.fdsOf (Ks.partsAt 38 (L.drop f))) ∨ (k = L.length + 1 ∧ paL L = D))
theorem PInv.start (L : List UInt8) : PInv L 0 0 [] := ⟨Nat.le_refl _, .inl ⟨Nat.zero_le _, Nat.le_refl _, by simp, rfl⟩⟩
theorem PInv.done {L : List UInt8} {f k : Nat} {D : List Fd} (h : PInv L f k D) (hk : ¬ k ≤ L.length) : paL L = D := by
  rcases h.2 with h | h
  · exact absurd h.1 hk
  · exact h.2
theorem PInv.le {L : List UInt8} {f k : Nat} {D : List Fd} (h : PInv L f k D) (hk : k ≤ L.length) : f ≤ k := by
  rcases h.2 with h | h
  · exact h.2.1
  · omega
theorem PInv.skip {L : List UInt8} {f k : Nat} {D : List Fd} (h : PInv L f k D) (hk : k < L.length) (hb : L[k] ≠ 38) : PInv L f (k + 1) D := by
  rcases h.2 with ⟨h1, h2, h3, h4⟩ | ⟨h1, _⟩
  · refine ⟨by have := h.1; omega, .inl ⟨by omega, by omega, ?_, h4⟩⟩
    rw [List.take_succ_eq_append_getElem hk, List.drop_append_of_le_length (by rw [List.length_take]; omega)]
    intro hm
    rcases List.mem_append.1 hm with hm | hm
    · exact h3 hm
    · rw [List.mem_singleton] at hm; exact hb hm.symm
  · omega
theorem PInv.cut {L : List UInt8} {f k : Nat} {D : List Fd} (h : PInv L f k D) (hk : k ≤ L.length) (hb : ∀ h : k < L.length, L[k] = 38) : PInv L (k + 1) (k + 1) (D ++ (if (L.take k).drop f = [] then [] else [Ks.fdOf ((L.take k).drop f)])) := by
  have hlen : (D ++ (if (L.take k).drop f = [] then [] else [Ks.fdOf ((L.take k).drop f)])).length ≤ k + 1 := by
    have := h.1
    rw [List.length_append]
    split <;> simp <;> omega
  refine ⟨hlen, ?_⟩
  rcases h.2 with ⟨h1, h2, h3, h4⟩ | ⟨h1, _⟩
  · rcases Nat.lt_or_ge k L.length with hl | hl
    · refine .inl ⟨by omega, by omega, ?_, ?_⟩
      · rw [List.drop_eq_nil_of_le (by rw [List.length_take]; omega)]; simp
      · rw [h4, part_hit L f k h2 hl (hb hl) h3, fds_cons, List.append_assoc]
    · obtain rfl : k = L.length := by omega
      refine .inr ⟨rfl, ?_⟩
      rw [h4, part_last L f h3, fds_cons]
      simp [Ks.fdsOf]
  · omega
theorem part_empty (L : List UInt8) (f k : Nat) (hf : f ≤ k) (hk : k ≤ L.length) : (L.take k).drop f = [] ↔ ¬ f < k := by
  constructor
  · intro h hl
    have := congrArg List.length h
    simp only [List.length_drop, List.length_take, List.length_nil] at this
    omega
  · intro h
    exact List.drop_eq_nil_of_le (by rw [List.length_take]; omega)
set_option maxRecDepth 100000 in
set_option maxHeartbeats 4000000 in
theorem rparse_any (u : ByteArray) (hm : u.size ≤ 281474976710656) (l : List Fd) (hl : parL u.data.toList = l) (r : Int) (hr : parI u.data.toList = r) (w : World) :
    Calls Tryd.prog 12 #[.string u] w fun e w' => (∃ q cc, e = .returned (.tuple #[.slice q l.length cc, .int .i64 r]) ∧ OwnF w' w.heap.size (.slice q l.length cc) l) ∧ Below w.heap.size w w' := by
  by_cases h1 : 65536 < u.size
  · have e1 : parI u.data.toList = 4 := by unfold parI; rw [len_list, if_pos h1]
    have e2 : parL u.data.toList = [] := by unfold parL; rw [e1]; rfl
    rw [e1] at hr; subst hr
    rw [e2] at hl; subst hl
    have i1 : (65536 : Int) < (u.size : Int) := by omega
    clear e1 e2
    go_enter Tryd.func12, Tryd.ntmps12
    go_wp2
    go_ret2
    exact ⟨⟨none, 0, rfl, World.ownsRow_nil _ _ _ _⟩, Below.refl _ _⟩
  · obtain ⟨i0, hi, hz0, hz1, hz2⟩ := info_parts Ks.infoField
    have i1 : ¬ (65536 : Int) < (u.size : Int) := by omega
    have HLS := Lib.hid (len_list u)
    have HRL := Lib.hid (And.intro hl hr)
    have hs : u.size ≤ 65536 := by omega
    clear hl hr h1
    go_enter Tryd.func12, Tryd.ntmps12
    go_wp2_with fail
    go_loopw [4, 5, 6] (fun s4 s5 s6 wr => ∃ (k f : Nat) (D : List Fd), k ≤ u.size + 1 ∧ f ≤ u.size + 1 ∧ s6 = .int .i64 k ∧ s5 = .int .i64 f ∧ Hid (OwnF wr w.heap.size s4 D) ∧ Hid (PInv u.data.toList f k D) ∧ Hid (Below w.heap.size w wr)) (fun _ _ i _ => u.size + 1 - (intOf i).toNat)
    case atStart => exact ⟨0, 0, [], by omega, by omega, rfl, rfl, Lib.hid (World.ownsRow_nil _ _ _ _), Lib.hid (PInv.start _), Lib.hid (Below.refl _ _)⟩
    case round =>
      obtain ⟨k, f, D, hk, hf, rfl, rfl, HO, HI, HB⟩ := hrel
      have hsz := HB.out.size
      by_cases hle : k ≤ u.size
      · have hfk : f ≤ k := HI.out.le (by rw [HLS.out]; exact hle)
        have hDl : D.length ≤ k := HI.out.1
        have i2 : (k : Int) ≤ (u.size : Int) := by omega
        by_cases hlt : k < u.size
        · have i3 : (k : Int) < (u.size : Int) := by omega
          by_cases hb : u[k] = 38
          · have hbi : ((u[k].toNat : Int) != 38) = false := by rw [hb]; rfl
            have HCUT := Lib.hid (HI.out.cut (by rw [HLS.out]; exact hle) (fun _ => hb))
            have hpe := part_empty u.data.toList f k hfk (by rw [HLS.out]; exact hle)
            by_cases hfk2 : f < k
            · have i4 : (f : Int) < (k : Int) := by omega
              have hne : ¬ (u.data.toList.take k).drop f = [] := fun e => (hpe.1 e) hfk2
              have hx := ext_mid u f k hle
              obtain ⟨A, B, hAB⟩ : ∃ A B, Ks.fdOf ((u.data.toList.take k).drop f) = (A, B) := ⟨_, _, rfl⟩
              have HCUT2 := Lib.hid (show PInv u.data.toList (k + 1) (k + 1) (D ++ [(A, B)]) by have := HCUT.out; rw [if_neg hne, hAB] at this; exact this)
              have hsz3 : (u.extract f k).size ≤ 65536 := by
                rw [← len_list, hx, List.length_drop, List.length_take]; omega
              have HPR := Lib.hid (rpair (u.extract f k) A B (by rw [hx]; exact hAB) hsz3 wr)
              have j1 : f ≤ k := hfk
              have j2 : k ≤ u.size := hle
              clear hpe hne hx hAB hsz3 HCUT HI
              go_wp2_with fail
              refine HPR.out.mono ?_
              rintro e w3 ⟨rfl, hb3⟩
              have HO3 := Lib.hid (Ks.own_to HO.out hb3)
              have HB3 := Lib.hid (bel2 HB.out hb3)
              have hs3 := HB3.out.size
              clear hb3
              go_wp2_with (at_builtin; refine wpList_append_own _ rfl _ _ 22 rfl w.heap.size 38 i0 (.agg #[.string ⟨#[]⟩, .string ⟨#[]⟩]) 2 32 Tryd.underlying22 hi hz0 hz1 hz2 rfl (by decide) _ _ _ rfl (HO3.out.alloc _) ⟨w3.heap.size, 0, none⟩ 1 1 (encFs [(A, B)]) rfl rfl (fun j u hj => by rw [Addr.add_lit, cell_of_row _ _ _ _ _ _ (heap_alloc_new w3 _), Nat.zero_add, List.getElem?_toArray]; exact hj) (encFs_one _) (by unfold maxLen; omega) (by omega) (by simp; omega) ?_; intro v' w4 hown' hgrow _; have HO4 := Lib.hid hown'; have HB4 := Lib.hid (show Below w.heap.size w w4 from (HB3.out.alloc (by omega) _).grown hgrow (by simp; omega) (fun k hk => (HO3.out.lt k hk).1)); clear hown' hgrow)
              go_roundw
              case rel => exact ⟨k + 1, k + 1, D ++ [(A, B)], by omega, by omega, by go_num, by go_num, Lib.hid (by unfold OwnF; rw [List.length_append, encFs_app]; exact HO4.out), HCUT2, HB4⟩
              case measure => simp [intOf]; omega
            · have i4 : ¬ (f : Int) < (k : Int) := by omega
              have HCUT2 := Lib.hid (show PInv u.data.toList (k + 1) (k + 1) D by have := HCUT.out; rw [if_pos (hpe.2 hfk2), List.append_nil] at this; exact this)
              clear hpe HCUT HI
              go_wp2
              go_roundw
              case rel => exact ⟨k + 1, k + 1, D, by omega, by omega, by go_num, by go_num, HO, HCUT2, HB⟩
              case measure => simp [intOf]; omega
          · have hbi : ((u[k].toNat : Int) != 38) = true := by
              rw [bne_iff_ne]; intro e; exact hb (UInt8.toNat_inj.1 (by show _ = 38; omega))
            have HI2 := Lib.hid (HI.out.skip (by rw [HLS.out]; exact hlt) hb)
            go_wp2
            go_roundw
            case rel => exact ⟨k + 1, f, D, by omega, hf, by go_num, rfl, HO, HI2, HB⟩
            case measure => simp [intOf]; omega
        · have i3 : ¬ (k : Int) < (u.size : Int) := by omega
          have HCUT := Lib.hid (HI.out.cut (by rw [HLS.out]; exact hle) (fun h => absurd h (by rw [HLS.out]; omega)))
          have hpe := part_empty u.data.toList f k hfk (by rw [HLS.out]; exact hle)
          by_cases hfk2 : f < k
          · have i4 : (f : Int) < (k : Int) := by omega
            have hne : ¬ (u.data.toList.take k).drop f = [] := fun e => (hpe.1 e) hfk2
            have hx := ext_mid u f k hle
            obtain ⟨A, B, hAB⟩ : ∃ A B, Ks.fdOf ((u.data.toList.take k).drop f) = (A, B) := ⟨_, _, rfl⟩
            have HCUT2 := Lib.hid (show PInv u.data.toList (k + 1) (k + 1) (D ++ [(A, B)]) by have := HCUT.out; rw [if_neg hne, hAB] at this; exact this)
            have hsz3 : (u.extract f k).size ≤ 65536 := by
              rw [← len_list, hx, List.length_drop, List.length_take]; omega
            have HPR := Lib.hid (rpair (u.extract f k) A B (by rw [hx]; exact hAB) hsz3 wr)
            have j1 : f ≤ k := hfk
            have j2 : k ≤ u.size := hle
            clear hpe hne hx hAB hsz3 HCUT HI
            go_wp2_with fail
            refine HPR.out.mono ?_
            rintro e w3 ⟨rfl, hb3⟩
            have HO3 := Lib.hid (Ks.own_to HO.out hb3)
            have HB3 := Lib.hid (bel2 HB.out hb3)
            have hs3 := HB3.out.size
            clear hb3
            go_wp2_with (at_builtin; refine wpList_append_own _ rfl _ _ 22 rfl w.heap.size 38 i0 (.agg #[.string ⟨#[]⟩, .string ⟨#[]⟩]) 2 32 Tryd.underlying22 hi hz0 hz1 hz2 rfl (by decide) _ _ _ rfl (HO3.out.alloc _) ⟨w3.heap.size, 0, none⟩ 1 1 (encFs [(A, B)]) rfl rfl (fun j u hj => by rw [Addr.add_lit, cell_of_row _ _ _ _ _ _ (heap_alloc_new w3 _), Nat.zero_add, List.getElem?_toArray]; exact hj) (encFs_one _) (by unfold maxLen; omega) (by omega) (by simp; omega) ?_; intro v' w4 hown' hgrow _; have HO4 := Lib.hid hown'; have HB4 := Lib.hid (show Below w.heap.size w w4 from (HB3.out.alloc (by omega) _).grown hgrow (by simp; omega) (fun k hk => (HO3.out.lt k hk).1)); clear hown' hgrow)
            go_roundw
            case rel => exact ⟨k + 1, k + 1, D ++ [(A, B)], by omega, by omega, by go_num, by go_num, Lib.hid (by unfold OwnF; rw [List.length_append, encFs_app]; exact HO4.out), HCUT2, HB4⟩
            case measure => simp [intOf]; omega
          · have i4 : ¬ (f : Int) < (k : Int) := by omega
            have HCUT2 := Lib.hid (show PInv u.data.toList (k + 1) (k + 1) D by have := HCUT.out; rw [if_pos (hpe.2 hfk2), List.append_nil] at this; exact this)
            clear hpe HCUT HI
            go_wp2
            go_roundw
            case rel => exact ⟨k + 1, k + 1, D, by omega, by omega, by go_num, by go_num, HO, HCUT2, HB⟩
            case measure => simp [intOf]; omega
      · have HP := Lib.hid (HI.out.done (by rw [HLS.out]; exact hle))
        have i2 : ¬ (k : Int) ≤ (u.size : Int) := by omega
        have HPI := Lib.hid (show parI u.data.toList = if 256 < D.length then 3 else 0 by
          unfold parI
          rw [if_neg (by rw [HLS.out]; omega), HP.out])
        by_cases h256 : 256 < D.length
        · have i5 : (256 : Int) < (D.length : Int) := by omega
          have hr3 : r = 3 := by rw [← HRL.out.2, HPI.out, if_pos h256]
          have hl3 : l = [] := by
            rw [← HRL.out.1]; unfold parL; rw [HPI.out, if_pos h256]; rfl
          subst hr3; subst hl3
          obtain ⟨q4, c4, rfl⟩ := Ks.own_slice HO.out
          go_wp2
          go_ret2
          exact ⟨⟨none, 0, rfl, World.ownsRow_nil _ _ _ _⟩, HB.out⟩
        · have i5 : ¬ (256 : Int) < (D.length : Int) := by omega
          have hr3 : r = 0 := by rw [← HRL.out.2, HPI.out, if_neg h256]
          have hl3 : l = D := by
            rw [← HRL.out.1]; unfold parL; rw [HPI.out, if_neg h256, if_pos rfl, HP.out]
          subst hr3; subst hl3
          obtain ⟨q4, c4, rfl⟩ := Ks.own_slice HO.out
          go_wp2
          go_ret2
          exact ⟨⟨q4, c4, rfl, HO.out⟩, HB.out⟩
end Go.Proofs.YtikdncmgppckfaaDoor
/-
  The contract of the document's Print (bastionref11): the first loop tells a text too long; the second one writes prL.
-/
namespace Go.Proofs.YtikdncmgppckfaaDoor
open Go.RowKit
theorem run_append_bytes2 {w : World} (ty : TypeId) (B : Nat) (v : Value) (l : List UInt8) (hown : OwnY B v l w) (B2 : Nat) (v2 : Value) (l2 : List UInt8) (h2 : OwnY B2 v2 l2 w)
    (hlen : l.length + l2.length ≤ 140737488355328) (hbase : B ≤ w.heap.size) :
    ∃ v' w', (Builtin.append_ #[45, 45] ty #[v, v2]).run Tryd.prog w = .ok v' w' ∧ OwnY B v' (l ++ l2) w' ∧ w.grownBy w' v.ownBlock ∧ (v'.ownBlock = v.ownBlock ∨ v'.ownBlock = some w.heap.size) := by
  obtain ⟨i0, hi, hz0, hz1, hz2⟩ := info_parts infoByte'
  rcases h2.2 with ⟨rfl, h0⟩ | ⟨g, cap, cur, rfl, _⟩
  · have hy : l2 = [] := List.eq_nil_of_length_eq_zero h0
    subst hy
    have hrun := run_append_owned_none (P := Tryd.prog) (w := w) B 45 ty 5 i0 1 Tryd.underlying45 hi v l.length _ hown
    exact ⟨v, w, hrun, by simpa using hown, ⟨rfl, rfl, rfl, Nat.le_refl _, fun _ _ _ => rfl⟩, .inl rfl⟩
  · obtain ⟨v', w', hr, a1, b1, _, d1⟩ := run_append_own_at (P := Tryd.prog) w B 45 ty 5 i0 (.int .u8 0) 1 1 Tryd.underlying45 hi hz0 hz1 hz2 rfl (by decide) v l.length _ hown ⟨g, 0, none⟩ l2.length cap (Lib.byteCells l2) (by rw [Lib.byteCells_length, Nat.mul_one]) (fun j u hj => h2.cells (g := g) rfl j u hj) (bytes_cell l2) (by unfold maxLen; omega) (by omega) hbase
    exact ⟨v', w', hr, own_app a1, b1, d1⟩
/-- owned bytes, closed: two of them at two worlds are not held against each other -/
structure OwnZ (B : Nat) (v : Value) (l : List UInt8) (w : World) : Prop where
  own : OwnY B v l w
structure LitZ (w : World) (g : Nat) (c : UInt8) : Prop where
  lit : Has w g (.cells #[.int .u8 c.toNat] 5)
theorem OwnZ.alloc {B : Nat} {v : Value} {l : List UInt8} {w : World} (h : OwnZ B v l w) (o : Obj) : OwnZ B v l (w.alloc o) := ⟨World.ownsRow.alloc h.own o⟩
theorem OwnZ.to {B : Nat} {v : Value} {l : List UInt8} {w w' : World} (h : OwnZ B v l w) (hb : Below w.heap.size w w') : OwnZ B v l w' := ⟨ownY_to h.own hb⟩
theorem LitZ.new (w : World) (c : UInt8) : LitZ (w.alloc (.cells #[.int .u8 c.toNat] 5)) w.heap.size c := ⟨Has.new _ _⟩
theorem LitZ.grown {w w' : World} {g B : Nat} {c : UInt8} {v : Value} {l : List UInt8} {n : Nat} (h : LitZ w g c) {w0 : World} (h0 : OwnZ B v l w0) (hn : w0.heap.size ≤ g) (hg : w.grownBy w' v.ownBlock) : LitZ w' g c := ⟨h.lit.grown hg (fun e => by have := (h0.own.lt _ e.symm).2; omega)⟩
structure After (B : Nat) (w w' : World) (v' : Value) (l' : List UInt8) (ov : Option Nat) : Prop where
  z : OwnZ B v' l' w'
  g : w.grownBy w' ov
theorem step_two {w : World} {ops : Array Oper} {o : Oper} {a : Act} {K : Act → World → Prop} {Q : Exit → Act → World → Prop} {E : Prop} {B B2 : Nat} {v v2 : Value} {l l2 : List UInt8} (hown : OwnZ B v l w) (h2 : OwnZ B2 v2 l2 w) (s x : Operand) (hgd : o.guard = none)
    (ho : o.op = .call { callee := .builtin .append, args := #[s, x], argTypes := #[45, 45] }) (hs : a.eval s = v) (hx : a.eval x = v2)
    (hlen : l.length + l2.length ≤ 140737488355328) (hbase : B ≤ w.heap.size)
    (h : ∀ v' w', After B w w' v' (l ++ l2) v.ownBlock → K (a.put o.dst v') w') :
    if Region.wanted o (yielded ops a.tmps) = true then Oper.wp Tryd.prog o a w K Q else E := by
  have hw : Region.wanted o (yielded ops a.tmps) = true := by simp [Region.wanted, hgd]
  rw [if_pos hw]
  obtain ⟨v', w', hr, a1, b1, d1⟩ := run_append_bytes2 (w := w) o.type B v l hown.own B2 v2 l2 h2.own hlen hbase
  unfold Oper.wp execOp
  simp only [ho, resolve, invoke, builtin, Sem.run_bind, Sem.run_pure, Result.andThen_ok, List.map_toArray, List.map_cons, List.map_nil, hs, hx, hr]
  exact h v' w' ⟨⟨a1⟩, b1⟩
theorem step_lit {w : World} {ops : Array Oper} {o : Oper} {a : Act} {K : Act → World → Prop} {Q : Exit → Act → World → Prop} {E : Prop} {B g : Nat} {c : UInt8} {v : Value} {l : List UInt8} (hown : OwnZ B v l w) (h2 : LitZ w g c) (s x : Operand) (hgd : o.guard = none)
    (ho : o.op = .call { callee := .builtin .append, args := #[s, x], argTypes := #[45, 45] }) (hs : a.eval s = v) (hx : a.eval x = .slice (some ⟨g, 0, none⟩) 1 1)
    (hlen : l.length + 1 ≤ 140737488355328) (hbase : B ≤ w.heap.size)
    (h : ∀ v' w', After B w w' v' (l ++ [c]) v.ownBlock → K (a.put o.dst v') w') :
    if Region.wanted o (yielded ops a.tmps) = true then Oper.wp Tryd.prog o a w K Q else E := by
  obtain ⟨i0, hi, hz0, hz1, hz2⟩ := info_parts infoByte'
  refine step_append_own hgd s x 45 ho B 5 i0 (.int .u8 0) 1 1 Tryd.underlying45 hi hz0 hz1 hz2 rfl (by decide) v _ _ hs hown.own ⟨g, 0, none⟩ 1 1 [.int .u8 c.toNat] hx rfl (World.news_of_block h2.lit) (one_cell _) (by unfold maxLen; omega) (by omega) hbase ?_
  intro v' w' h1 h2 _
  exact h v' w' ⟨⟨ownY_snoc h1⟩, h2⟩
theorem bdrew (w : World) : Below w.heap.size w w.drew := (Below.refl _ _).drew
theorem row_kept {w w' : World} {fb B : Nat} {cs : Array Value} {v : Value} {l : List UInt8} (hf : Has w fb (.cells cs 38)) (ho : OwnY B v l w) (hg : w.grownBy w' v.ownBlock) : Has w' fb (.cells cs 38) :=
  has_past hf hg (own_ne ho hf (by decide))
theorem prL_ne' (l : List Fd) (k : Nat) (h0 : 0 < k) (hk : k ≤ l.length) : prL (l.take k) ≠ [] := by
  obtain ⟨j, rfl⟩ : ∃ j, k = j + 1 := ⟨k - 1, by omega⟩
  rw [prL_snoc l j (by omega)]
  exact wrP_none _ _
set_option maxRecDepth 100000 in
set_option maxHeartbeats 8000000 in
theorem rprint_any (v : Value) (l : List Fd) (hm : l.length ≤ 140737488355328) (w : World) (hv : Lst w v l) (T : List UInt8) (r : Int)
    (h : (if 256 < l.length then ([], 3) else if l.any longF then ([], 4) else (prL l, 0)) = (T, r)) :
    Calls Tryd.prog 10 #[v] w fun e w' => e = .returned (.tuple #[.string ⟨T.toArray⟩, .int .i64 r]) ∧ Below w.heap.size w w' := by
  obtain ⟨p, cap, rfl, hcc⟩ := hv
  have HCC := Lib.hid hcc
  have HT := Lib.hid h
  clear hcc h
  by_cases h256 : 256 < l.length
  · have h1 := HT.out
    rw [if_pos h256] at h1
    injection h1 with h2 h3
    subst h2; subst h3
    have i1 : (256 : Int) < (l.length : Int) := by omega
    go_enter Tryd.func10, Tryd.ntmps10
    go_wp2
    go_ret2
    exact ⟨rfl, Below.refl _ _⟩
  have i1 : ¬ (256 : Int) < (l.length : Int) := by omega
  obtain ⟨i0, hi, hz0, hz1, hz2⟩ := info_parts infoByte'
  go_enter Tryd.func10, Tryd.ntmps10
  go_wp2_with fail
  go_loopw [14] (fun i wr => ∃ (k : Nat), k ≤ l.length ∧ i = .int .i64 k ∧ Hid ((l.take k).any longF = false) ∧ Hid (Below w.heap.size w wr)) (fun i _ => l.length - (intOf i).toNat)
  case atStart => exact ⟨0, by omega, rfl, Lib.hid rfl, Lib.hid (Below.refl _ _)⟩
  case round =>
    obtain ⟨k, hk, rfl, HL, HB⟩ := hrel
    by_cases hlt : k < l.length
    · obtain ⟨g, o, rfl, hg, hx, hy⟩ := HCC.out k l[k] (getF hlt)
      have i2 : (k : Int) < (l.length : Int) := by omega
      have hx2 := (HB.out.cell (p := ⟨g, o + k * 2, none⟩) hg).trans hx
      have hy2 := (HB.out.cell (p := ⟨g, o + k * 2 + 1, none⟩) hg).trans hy
      have HSN := Lib.hid (show (l.take (k + 1)).any longF = ((l.take k).any longF || longF l[k]) by rw [List.take_succ_eq_append_getElem hlt, List.any_append]; simp)
      have HAN := Lib.hid (show longF l[k] = true → l.any longF = true from fun h => List.any_eq_true.2 ⟨_, List.getElem_mem hlt, h⟩)
      clear hx hy
      generalize l[k] = f at *
      obtain ⟨a, b⟩ := f
      have hx3 : wr.cell? ⟨g, o + k * 2, none⟩ = some (.string a) := hx2
      have hy3 : wr.cell? ⟨g, o + k * 2 + 1, none⟩ = some (.string b) := hy2
      clear hx2 hy2
      have HBn := Lib.hid (show Below w.heap.size w (wr.alloc (.cells #[.string a, .string b] 38)) from HB.out.alloc HB.out.size _)
      by_cases hl1 : 4096 < a.size
      · have i3 : (4096 : Int) < (a.size : Int) := by omega
        have h1 := HT.out
        rw [if_neg h256, if_pos (HAN.out (by unfold longF; simp [hl1]))] at h1
        injection h1 with h2 h3
        subst h2; subst h3
        go_wp2
        go_ret2
        exact ⟨rfl, HBn.out⟩
      · have i3 : ¬ (4096 : Int) < (a.size : Int) := by omega
        by_cases hl2 : 4096 < b.size
        · have i4 : (4096 : Int) < (b.size : Int) := by omega
          have h1 := HT.out
          rw [if_neg h256, if_pos (HAN.out (by unfold longF; simp [hl2]))] at h1
          injection h1 with h2 h3
          subst h2; subst h3
          go_wp2
          go_ret2
          exact ⟨rfl, HBn.out⟩
        · have i4 : ¬ (4096 : Int) < (b.size : Int) := by omega
          go_wp2
          go_roundw
          case rel => exact ⟨k + 1, by omega, by go_num, Lib.hid (by rw [HSN.out, HL.out]; unfold longF; simp [hl1, hl2]), HBn⟩
          case measure => simp [intOf]; omega
    · have hL : l.any longF = false := by have := HL.out; rw [List.take_of_length_le (by omega)] at this; exact this
      have HLL := Lib.hid (show ∀ x ∈ l, longF x = false from fun x hx => by
        cases h : longF x with
        | false => rfl
        | true => rw [List.any_eq_true.2 ⟨_, hx, h⟩] at hL; cases hL)
      have h1 := HT.out
      rw [if_neg h256, hL, if_neg (by simp)] at h1
      injection h1 with h2 h3
      subst h3
      have HTT := Lib.hid h2
      clear h2 hL
      go_wp2_with fail
      go_loopw [6, 31] (fun s6 i wr => ∃ (k : Nat), k ≤ l.length ∧ i = .int .i64 k ∧ Hid (OwnY w.heap.size s6 (prL (l.take k)) wr) ∧ Hid (Below w.heap.size w wr)) (fun _ i _ => l.length - (intOf i).toNat)
      case atStart => exact ⟨0, by omega, rfl, Lib.hid (World.ownsRow_nil _ _ _ _), HB⟩
      case round =>
        obtain ⟨k2, hk2, rfl, HO, HB2⟩ := hrel
        by_cases hlt2 : k2 < l.length
        · obtain ⟨g, o, rfl, hg, hx, hy⟩ := HCC.out k2 l[k2] (getF hlt2)
          have i2 : (k2 : Int) < (l.length : Int) := by omega
          have hx2 := (HB2.out.cell (p := ⟨g, o + k2 * 2, none⟩) hg).trans hx
          have hy2 := (HB2.out.cell (p := ⟨g, o + k2 * 2 + 1, none⟩) hg).trans hy
          have HSN := Lib.hid (prL_snoc l k2 hlt2)
          have HLX := Lib.hid (HLL.out _ (List.getElem_mem hlt2))
          have hpl := prL_len l HLL.out k2
          have HNE := Lib.hid (fun (h0 : 0 < k2) => prL_ne' l k2 h0 (by omega))
          clear hx hy
          generalize l[k2] = f at *
          obtain ⟨a, b⟩ := f
          have hx3 : wr.cell? ⟨g, o + k2 * 2, none⟩ = some (.string a) := hx2
          have hy3 : wr.cell? ⟨g, o + k2 * 2 + 1, none⟩ = some (.string b) := hy2
          have hlx := HLX.out
          simp only [longF, Bool.or_eq_false_iff, decide_eq_false_iff_not] at hlx
          clear hx2 hy2
          obtain ⟨TA, hTA⟩ : ∃ TA, wrT a.data.toList = TA := ⟨_, rfl⟩
          obtain ⟨TB, hTB⟩ : ∃ TB, wrT b.data.toList = TB := ⟨_, rfl⟩
          have hla := wrT_len a.data.toList 4096 (by rw [len_list]; omega)
          have hlb := wrT_len b.data.toList 4096 (by rw [len_list]; omega)
          rw [hTA] at hla
          rw [hTB] at hlb
          have HA := Lib.hid (fun W => rwritten a TA hTA (by omega) W)
          have HB' := Lib.hid (fun W => rwritten b TB hTB (by omega) W)
          have HSN2 := Lib.hid (show prL (l.take (k2 + 1)) = (if prL (l.take k2) = [] then [] else prL (l.take k2) ++ [38]) ++ TA ++ [61] ++ TB by rw [HSN.out, ← hTA, ← hTB]; rfl)
          have hal : (prL (l.take k2)).length ≤ 25600000 := Nat.le_trans hpl (Nat.mul_le_mul_right 100000 (by omega : k2 ≤ 256))
          have HBn := Lib.hid (show Below w.heap.size w (wr.alloc (.cells #[.string a, .string b] 38)) from HB2.out.alloc HB2.out.size _)
          have HFn := Lib.hid (show Has (wr.alloc (.cells #[.string a, .string b] 38)) wr.heap.size (.cells #[.string a, .string b] 38) from Has.new _ _)
          have HOn := Lib.hid (show OwnY w.heap.size u6 (prL (l.take k2)) (wr.alloc (.cells #[.string a, .string b] 38)) from HO.out.alloc _)
          clear hTA hTB HSN hpl
          go_upto_region 13 with fail
          generalize wr.alloc (.cells #[.string a, .string b] 38) = X0 at *
          generalize wr.heap.size = fb at *
          by_cases hk0 : k2 = 0
          · subst hk0
            obtain ⟨acc, hacc⟩ : ∃ acc, prL (l.take 0) = acc := ⟨_, rfl⟩
            have hacc0 : acc = [] := by rw [← hacc]; rfl
            rw [hacc] at HOn HSN2 hal
            rw [hacc0, if_pos rfl, List.nil_append] at HSN2
            obtain ⟨X, hX⟩ : ∃ X, X0 = X := ⟨_, rfl⟩
            subst hX
            have HSN3 := Lib.hid (show prL (l.take (0 + 1)) = acc ++ TA ++ [61] ++ TB by rw [hacc0]; exact HSN2.out)
            have HOX := HOn
            have HFX := HFn
            have HBX := HBn
            clear HOn HFn HBn HO hacc0
            have hfb := HFX.out.lt
            have q0 := HFX.out.cell 0 rfl
            have q1 := HFX.out.cell 1 rfl
            have hsx := HBX.out.size
            have ZX : OwnZ w.heap.size _ acc X0 := ⟨HOX.out⟩
            clear HOX
            go_wp2_with fail
            go_region_held3 (fun w' => w'.cell? ⟨fb, 0, none⟩ = some (.string a) ∧ w'.cell? ⟨fb, 1, none⟩ = some (.string b)) (go_keep)
              (first
                | ((fail_if_success (have hh := Z3)); go_at_call 28; refine (HA.out _).mono ?_; rintro e w3 ⟨⟨v3, rfl, ho3⟩, hb3⟩; have L3 : LitZ w3 X0.heap.size 61 := ⟨(LitZ.new X0.drew 61).lit.to hb3⟩; have HX3 := Lib.hid (show Below X0.heap.size X0 w3 from ((bdrew X0).alloc (Nat.le_refl _) _).trans (hb3.mono (by simp))); have q3 := (HX3.out.cell (p := ⟨fb, 0, none⟩) hfb).trans q0; have q4 := (HX3.out.cell (p := ⟨fb, 1, none⟩) hfb).trans q1; have Z3 := ZX.to HX3.out; have ZV : OwnZ _ v3 TA w3 := ⟨ho3⟩; clear ho3 hb3)
                | ((fail_if_success (have hh := Z3)); go_at_call 28; refine (HA.out _).mono ?_; rintro e w3 ⟨⟨v3, rfl, ho3⟩, hb3⟩; have HX3 := Lib.hid (show Below X0.heap.size X0 w3 from (bdrew X0).trans hb3); have q3 := (HX3.out.cell (p := ⟨fb, 0, none⟩) hfb).trans q0; have q4 := (HX3.out.cell (p := ⟨fb, 1, none⟩) hfb).trans q1; have Z3 := ZX.to HX3.out; have ZV : OwnZ _ v3 TA w3 := ⟨ho3⟩; clear ho3 hb3)
                | ((have hh := Z6); clear hh; refine step_two Z6 ZW (.tmp 47) (.tmp 50) (by rfl) (by rfl) (by rfl) (by rfl) (by rw [List.length_append, List.length_append]; simp only [List.length_cons, List.length_nil]; omega) HB6.out.size ?_; intro v7 w7 A7; have HF7 := Lib.hid (row_kept HF6.out Z6.own A7.g); have HB7 := Lib.hid (show Below w.heap.size w w7 from HB6.out.grown A7.g HB6.out.size (fun k hk => (Z6.own.lt k hk).1)); have q11 := HF7.out.cell 0 rfl; have q12 := HF7.out.cell 1 rfl; have Z7 := A7.z; clear A7)
                | ((fail_if_success (have hh := Z4)); refine step_two Z3 ZV (.tmp 41) (.tmp 44) (by rfl) (by rfl) (by rfl) (by rfl) (by omega) (by have := HX3.out.size; omega) ?_; intro v4 w4 A4; have L4 := L3.grown (n := 0) ZX (Nat.le_refl _) A4.g; have HF4 := Lib.hid (row_kept (HFX.out.to HX3.out) Z3.own A4.g); have HB4 := Lib.hid (show Below w.heap.size w w4 from (HBX.out.trans (HX3.out.mono HBX.out.size)).grown A4.g (by have := HX3.out.size; omega) (fun k hk => (Z3.own.lt k hk).1)); have q5 := HF4.out.cell 0 rfl; have q6 := HF4.out.cell 1 rfl; have Z4 := A4.z; clear A4)
                | ((fail_if_success (have hh := Z4)); refine step_two Z3 ZV (.tmp 41) (.tmp 44) (by rfl) (by rfl) (by rfl) (by rfl) (by omega) (by have := HX3.out.size; omega) ?_; intro v4 w4 A4; have HF4 := Lib.hid (row_kept (HFX.out.to HX3.out) Z3.own A4.g); have HB4 := Lib.hid (show Below w.heap.size w w4 from (HBX.out.trans (HX3.out.mono HBX.out.size)).grown A4.g (by have := HX3.out.size; omega) (fun k hk => (Z3.own.lt k hk).1)); have q5 := HF4.out.cell 0 rfl; have q6 := HF4.out.cell 1 rfl; have Z4 := A4.z; clear A4)
                | ((fail_if_success (have hh := Z4)); refine step_two (Z3.alloc _) (ZV.alloc _) (.tmp 41) (.tmp 44) (by rfl) (by rfl) (by rfl) (by rfl) (by omega) (by have := HX3.out.size; simp; omega) ?_; intro v4 w4 A4; have L4 := (LitZ.new w3 61).grown (n := 0) ZX HX3.out.size A4.g; have HF4 := Lib.hid (row_kept ((HFX.out.to HX3.out).alloc _) (Z3.alloc _).own A4.g); have HB4 := Lib.hid (show Below w.heap.size w w4 from ((HBX.out.trans (HX3.out.mono HBX.out.size)).alloc (by have := HX3.out.size; omega) _).grown A4.g (by have := HX3.out.size; simp; omega) (fun k hk => (Z3.own.lt k hk).1)); have q5 := HF4.out.cell 0 rfl; have q6 := HF4.out.cell 1 rfl; have Z4 := A4.z; clear A4)
                | ((fail_if_success (have hh := Z5)); refine step_lit Z4 L4 (.tmp 45) (.tmp 46) (by rfl) (by rfl) (by rfl) (by rfl) (by rw [List.length_append]; omega) HB4.out.size ?_; intro v5 w5 A5; have HF5 := Lib.hid (row_kept HF4.out Z4.own A5.g); have HB5 := Lib.hid (show Below w.heap.size w w5 from HB4.out.grown A5.g HB4.out.size (fun k hk => (Z4.own.lt k hk).1)); have q7 := HF5.out.cell 0 rfl; have q8 := HF5.out.cell 1 rfl; have Z5 := A5.z; clear A5)
                | ((fail_if_success (have hh := Z5)); refine step_lit (Z4.alloc _) (LitZ.new w4 61) (.tmp 45) (.tmp 46) (by rfl) (by rfl) (by rfl) (by rfl) (by rw [List.length_append]; omega) (by have := HB4.out.size; simp; omega) ?_; intro v5 w5 A5; have HF5 := Lib.hid (row_kept (HF4.out.alloc _) (Z4.alloc _).own A5.g); have HB5 := Lib.hid (show Below w.heap.size w w5 from (HB4.out.alloc HB4.out.size _).grown A5.g (by have := HB4.out.size; simp; omega) (fun k hk => (Z4.own.lt k hk).1)); have q7 := HF5.out.cell 0 rfl; have q8 := HF5.out.cell 1 rfl; have Z5 := A5.z; clear A5)
                | ((have hh := Z5); clear hh; go_at_call 28; refine (HB'.out _).mono ?_; rintro e w6 ⟨⟨v6, rfl, ho6⟩, hb6⟩; have ZW : OwnZ _ v6 TB w6 := ⟨ho6⟩; have Z6 := Z5.to hb6; have HF6 := Lib.hid (HF5.out.to hb6); have HB6 := Lib.hid (show Below w.heap.size w w6 from HB5.out.trans (hb6.mono HB5.out.size)); have q9 := HF6.out.cell 0 rfl; have q10 := HF6.out.cell 1 rfl; clear ho6 hb6)
                | fail)
            all_goals
              go_wp2
              go_roundw
              case rel => exact ⟨0 + 1, by omega, by go_num, Lib.hid (by rw [HSN3.out]; exact Z7.own), HB7⟩
              case measure => simp [intOf]; omega
          · have hk1 : (0 : Int) < (k2 : Int) := by omega
            obtain ⟨acc, hacc⟩ : ∃ acc, prL (l.take k2) ++ [38] = acc := ⟨_, rfl⟩
            have HSN3 := Lib.hid (show prL (l.take (k2 + 1)) = acc ++ TA ++ [61] ++ TB by rw [HSN2.out, if_neg (HNE.out (by omega)), hacc])
            have HAC := Lib.hid hacc
            have hal2 : acc.length ≤ 25600001 := by rw [← hacc, List.length_append]; simp only [List.length_cons, List.length_nil]; omega
            clear hacc HSN2 HO
            go_wp2_with (at_builtin; refine wpList_append_own _ rfl (.tmp 38) (.tmp 39) 45 rfl w.heap.size 5 i0 (.int .u8 0) 1 1 Tryd.underlying45 hi hz0 hz1 hz2 rfl (by decide) _ _ _ rfl (HOn.out.alloc _) ⟨X0.heap.size, 0, none⟩ 1 1 [.int .u8 38] rfl rfl (lit_one _ _) (one_cell _) (by unfold maxLen; omega) (by omega) (by have := HBn.out.size; simp; omega) ?_; intro v1 X own1 grow1 _; have HOX := Lib.hid (show OwnY w.heap.size v1 acc X by rw [← HAC.out]; exact ownY_snoc (c := 38) own1); have HFX := Lib.hid (row_kept (HFn.out.alloc _) (HOn.out.alloc _) grow1); have HBX := Lib.hid (show Below w.heap.size w X from (HBn.out.alloc HBn.out.size _).grown grow1 (by have := HBn.out.size; simp; omega) (fun k hk => (HOn.out.lt k hk).1)); clear own1 grow1)
            clear HOn HFn HBn
            have hfb := HFX.out.lt
            have q0 := HFX.out.cell 0 rfl
            have q1 := HFX.out.cell 1 rfl
            have hsx := HBX.out.size
            have ZX : OwnZ w.heap.size _ acc X := ⟨HOX.out⟩
            clear HOX
            go_region_held3 (fun w' => w'.cell? ⟨fb, 0, none⟩ = some (.string a) ∧ w'.cell? ⟨fb, 1, none⟩ = some (.string b)) (go_keep)
              (first
                | ((fail_if_success (have hh := Z3)); go_at_call 28; refine (HA.out _).mono ?_; rintro e w3 ⟨⟨v3, rfl, ho3⟩, hb3⟩; have L3 : LitZ w3 X.heap.size 61 := ⟨(LitZ.new X.drew 61).lit.to hb3⟩; have HX3 := Lib.hid (show Below X.heap.size X w3 from ((bdrew X).alloc (Nat.le_refl _) _).trans (hb3.mono (by simp))); have q3 := (HX3.out.cell (p := ⟨fb, 0, none⟩) hfb).trans q0; have q4 := (HX3.out.cell (p := ⟨fb, 1, none⟩) hfb).trans q1; have Z3 := ZX.to HX3.out; have ZV : OwnZ _ v3 TA w3 := ⟨ho3⟩; clear ho3 hb3)
                | ((fail_if_success (have hh := Z3)); go_at_call 28; refine (HA.out _).mono ?_; rintro e w3 ⟨⟨v3, rfl, ho3⟩, hb3⟩; have HX3 := Lib.hid (show Below X.heap.size X w3 from (bdrew X).trans hb3); have q3 := (HX3.out.cell (p := ⟨fb, 0, none⟩) hfb).trans q0; have q4 := (HX3.out.cell (p := ⟨fb, 1, none⟩) hfb).trans q1; have Z3 := ZX.to HX3.out; have ZV : OwnZ _ v3 TA w3 := ⟨ho3⟩; clear ho3 hb3)
                | ((have hh := Z6); clear hh; refine step_two Z6 ZW (.tmp 47) (.tmp 50) (by rfl) (by rfl) (by rfl) (by rfl) (by rw [List.length_append, List.length_append]; simp only [List.length_cons, List.length_nil]; omega) HB6.out.size ?_; intro v7 w7 A7; have HF7 := Lib.hid (row_kept HF6.out Z6.own A7.g); have HB7 := Lib.hid (show Below w.heap.size w w7 from HB6.out.grown A7.g HB6.out.size (fun k hk => (Z6.own.lt k hk).1)); have q11 := HF7.out.cell 0 rfl; have q12 := HF7.out.cell 1 rfl; have Z7 := A7.z; clear A7)
                | ((fail_if_success (have hh := Z4)); refine step_two Z3 ZV (.tmp 41) (.tmp 44) (by rfl) (by rfl) (by rfl) (by rfl) (by omega) (by have := HX3.out.size; omega) ?_; intro v4 w4 A4; have L4 := L3.grown (n := 0) ZX (Nat.le_refl _) A4.g; have HF4 := Lib.hid (row_kept (HFX.out.to HX3.out) Z3.own A4.g); have HB4 := Lib.hid (show Below w.heap.size w w4 from (HBX.out.trans (HX3.out.mono HBX.out.size)).grown A4.g (by have := HX3.out.size; omega) (fun k hk => (Z3.own.lt k hk).1)); have q5 := HF4.out.cell 0 rfl; have q6 := HF4.out.cell 1 rfl; have Z4 := A4.z; clear A4)
                | ((fail_if_success (have hh := Z4)); refine step_two Z3 ZV (.tmp 41) (.tmp 44) (by rfl) (by rfl) (by rfl) (by rfl) (by omega) (by have := HX3.out.size; omega) ?_; intro v4 w4 A4; have HF4 := Lib.hid (row_kept (HFX.out.to HX3.out) Z3.own A4.g); have HB4 := Lib.hid (show Below w.heap.size w w4 from (HBX.out.trans (HX3.out.mono HBX.out.size)).grown A4.g (by have := HX3.out.size; omega) (fun k hk => (Z3.own.lt k hk).1)); have q5 := HF4.out.cell 0 rfl; have q6 := HF4.out.cell 1 rfl; have Z4 := A4.z; clear A4)
                | ((fail_if_success (have hh := Z4)); refine step_two (Z3.alloc _) (ZV.alloc _) (.tmp 41) (.tmp 44) (by rfl) (by rfl) (by rfl) (by rfl) (by omega) (by have := HX3.out.size; simp; omega) ?_; intro v4 w4 A4; have L4 := (LitZ.new w3 61).grown (n := 0) ZX HX3.out.size A4.g; have HF4 := Lib.hid (row_kept ((HFX.out.to HX3.out).alloc _) (Z3.alloc _).own A4.g); have HB4 := Lib.hid (show Below w.heap.size w w4 from ((HBX.out.trans (HX3.out.mono HBX.out.size)).alloc (by have := HX3.out.size; omega) _).grown A4.g (by have := HX3.out.size; simp; omega) (fun k hk => (Z3.own.lt k hk).1)); have q5 := HF4.out.cell 0 rfl; have q6 := HF4.out.cell 1 rfl; have Z4 := A4.z; clear A4)
                | ((fail_if_success (have hh := Z5)); refine step_lit Z4 L4 (.tmp 45) (.tmp 46) (by rfl) (by rfl) (by rfl) (by rfl) (by rw [List.length_append]; omega) HB4.out.size ?_; intro v5 w5 A5; have HF5 := Lib.hid (row_kept HF4.out Z4.own A5.g); have HB5 := Lib.hid (show Below w.heap.size w w5 from HB4.out.grown A5.g HB4.out.size (fun k hk => (Z4.own.lt k hk).1)); have q7 := HF5.out.cell 0 rfl; have q8 := HF5.out.cell 1 rfl; have Z5 := A5.z; clear A5)
                | ((fail_if_success (have hh := Z5)); refine step_lit (Z4.alloc _) (LitZ.new w4 61) (.tmp 45) (.tmp 46) (by rfl) (by rfl) (by rfl) (by rfl) (by rw [List.length_append]; omega) (by have := HB4.out.size; simp; omega) ?_; intro v5 w5 A5; have HF5 := Lib.hid (row_kept (HF4.out.alloc _) (Z4.alloc _).own A5.g); have HB5 := Lib.hid (show Below w.heap.size w w5 from (HB4.out.alloc HB4.out.size _).grown A5.g (by have := HB4.out.size; simp; omega) (fun k hk => (Z4.own.lt k hk).1)); have q7 := HF5.out.cell 0 rfl; have q8 := HF5.out.cell 1 rfl; have Z5 := A5.z; clear A5)
                | ((have hh := Z5); clear hh; go_at_call 28; refine (HB'.out _).mono ?_; rintro e w6 ⟨⟨v6, rfl, ho6⟩, hb6⟩; have ZW : OwnZ _ v6 TB w6 := ⟨ho6⟩; have Z6 := Z5.to hb6; have HF6 := Lib.hid (HF5.out.to hb6); have HB6 := Lib.hid (show Below w.heap.size w w6 from HB5.out.trans (hb6.mono HB5.out.size)); have q9 := HF6.out.cell 0 rfl; have q10 := HF6.out.cell 1 rfl; clear ho6 hb6)
                | fail)
            all_goals
              go_wp2
              go_roundw
              case rel => exact ⟨k2 + 1, by omega, by go_num, Lib.hid (by rw [HSN3.out]; exact Z7.own), HB7⟩
              case measure => simp [intOf]; omega
        · have kb := own_back (P := Tryd.prog) HO.out Tryd.underlying45 Tryd.underlying5 Tryd.underlying9
          have HF := Lib.hid (show prL (l.take k2) = T by rw [← HTT.out, List.take_of_length_le (by omega)])
          clear HO
          generalize prL (l.take k2) = acc at *
          go_wp2
          go_ret2
          exact ⟨by rw [← HF.out]; rfl, HB2.out⟩
end Go.Proofs.YtikdncmgppckfaaDoor
