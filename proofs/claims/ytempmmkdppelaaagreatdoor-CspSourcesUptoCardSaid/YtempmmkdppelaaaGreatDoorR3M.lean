import Derived.Test.YtempmmkdppelaaaGreatDoorR2M
import Derived.Test.YtempmmkdppelaaaGreatDoorU5M
/-
  The document's words, split.
-/
namespace Go.Proofs.YtempmmkdppelaaaGreatDoor
open Go.RowKit
def mkB (l : List UInt8) : ByteArray := ⟨l.toArray⟩
theorem ext_mk (s : ByteArray) (f k : Nat) : s.extract f k = mkB ((s.data.toList.take k).drop f) := by
  apply ByteArray.ext; apply Array.toList_inj.1
  rw [ext_list]; simp [mkB]
/-- how far words has come -/
def Wst (l : List UInt8) (k f : Nat) (acc : List (List UInt8)) : Prop :=
  (k ≤ l.length ∧ f ≤ k ∧ acc.length ≤ k ∧ (∀ b ∈ (l.take k).drop f, blankB b = false) ∧ wB [] l = acc ++ wB ((l.take k).drop f) (l.drop k)) ∨ (k = l.length + 1 ∧ f = k ∧ acc.length ≤ k ∧ wB [] l = acc)
theorem drop_cons {l : List UInt8} {k : Nat} {b : UInt8} (h : l[k]? = some b) : l.drop k = b :: l.drop (k + 1) := by
  obtain ⟨hk, e⟩ := List.getElem?_eq_some_iff.1 h
  rw [List.drop_eq_getElem_cons hk, e]
theorem cur_snoc {l : List UInt8} {k f : Nat} {b : UInt8} (h : l[k]? = some b) (hf : f ≤ k) : (l.take (k + 1)).drop f = (l.take k).drop f ++ [b] := by
  obtain ⟨hk, e⟩ := List.getElem?_eq_some_iff.1 h
  rw [List.take_succ_eq_append_getElem hk, e, List.drop_append_of_le_length (by rw [List.length_take]; omega)]
theorem cur_nil {l : List UInt8} {k : Nat} : (l.take k).drop k = [] := List.drop_of_length_le (by rw [List.length_take]; omega)
theorem cur_ne {l : List UInt8} {k f : Nat} (hk : k ≤ l.length) (hf : f < k) : (l.take k).drop f ≠ [] := by
  intro h
  have := congrArg List.length h
  rw [List.length_drop, List.length_take] at this
  simp at this; omega
theorem wst_on {l : List UInt8} {k f : Nat} {acc : List (List UInt8)} {b : UInt8} (h : Wst l k f acc) (hb : l[k]? = some b) (hn : blankB b = false) : Wst l (k + 1) f acc := by
  have hkl := (List.getElem?_eq_some_iff.1 hb).1
  rcases h with ⟨h1, h2, h3, h4, h5⟩ | ⟨h1, _⟩
  · refine .inl ⟨by omega, by omega, by omega, ?_, ?_⟩
    · rw [cur_snoc hb h2]
      intro x hx
      rcases List.mem_append.1 hx with hx | hx
      · exact h4 x hx
      · rw [List.mem_singleton] at hx; subst hx; exact hn
    · rw [h5, drop_cons hb, cur_snoc hb h2, wB, if_neg (by rw [hn]; simp)]
  · omega
theorem wst_word {l : List UInt8} {k f : Nat} {acc : List (List UInt8)} {b : UInt8} (h : Wst l k f acc) (hb : l[k]? = some b) (hn : blankB b = true) (hf : f < k) : Wst l (k + 1) (k + 1) (acc ++ [(l.take k).drop f]) := by
  have hkl := (List.getElem?_eq_some_iff.1 hb).1
  rcases h with ⟨h1, h2, h3, h4, h5⟩ | ⟨h1, _⟩
  · refine .inl ⟨by omega, by omega, by rw [List.length_append]; simp; omega, by rw [cur_nil]; simp, ?_⟩
    rw [h5, drop_cons hb, cur_nil, wB_blank _ _ _ hn (cur_ne h1 hf), List.append_assoc]; rfl
  · omega
theorem wst_skip {l : List UInt8} {k : Nat} {acc : List (List UInt8)} {b : UInt8} (h : Wst l k k acc) (hb : l[k]? = some b) (hn : blankB b = true) : Wst l (k + 1) (k + 1) acc := by
  have hkl := (List.getElem?_eq_some_iff.1 hb).1
  rcases h with ⟨h1, h2, h3, h4, h5⟩ | ⟨h1, _⟩
  · refine .inl ⟨by omega, by omega, by omega, by rw [cur_nil]; simp, ?_⟩
    rw [h5, drop_cons hb, cur_nil, cur_nil, wB_skip _ _ hn]
  · omega
theorem wst_last {l : List UInt8} {f : Nat} {acc : List (List UInt8)} (h : Wst l l.length f acc) (hf : f < l.length) : Wst l (l.length + 1) (l.length + 1) (acc ++ [(l.take l.length).drop f]) := by
  rcases h with ⟨h1, h2, h3, h4, h5⟩ | ⟨h1, _⟩
  · refine .inr ⟨rfl, rfl, by rw [List.length_append]; simp; omega, ?_⟩
    rw [h5, List.drop_length, wB, if_neg (cur_ne h1 hf)]
  · omega
theorem wst_none {l : List UInt8} {acc : List (List UInt8)} (h : Wst l l.length l.length acc) : Wst l (l.length + 1) (l.length + 1) acc := by
  rcases h with ⟨h1, h2, h3, h4, h5⟩ | ⟨h1, _⟩
  · refine .inr ⟨rfl, rfl, by omega, ?_⟩
    rw [h5, List.drop_length, cur_nil, wB, if_pos rfl, List.append_nil]
  · omega
theorem wst_le {l : List UInt8} {k f : Nat} {acc : List (List UInt8)} (h : Wst l k f acc) : k ≤ l.length + 1 ∧ f ≤ k ∧ acc.length ≤ k := by
  rcases h with ⟨h1, h2, h3, _⟩ | ⟨h1, h2, h3, _⟩ <;> omega
def strV (acc : List (List UInt8)) : List Value := acc.map fun x => .string (mkB x)
theorem strV_snoc (acc : List (List UInt8)) (x : List UInt8) : strV acc ++ [.string (mkB x)] = strV (acc ++ [x]) := by simp [strV]
set_option maxHeartbeats 2000000 in
set_option maxRecDepth 100000 in
theorem words_ref (s : ByteArray) (hs : s.size ≤ 2097152) (w : World) : Calls Tryz.prog 40 #[.string s] w fun e w' => (∃ q c, e = .returned (.slice q (wordsL s.data.toList).length c) ∧ OwnS w' w.heap.size (.slice q (wordsL s.data.toList).length c) (wordsL s.data.toList)) ∧ Below w.heap.size w w' := by
  obtain ⟨i9, hi9, hy0, hy1, hy2⟩ := info_parts info9f
  have hsl : s.data.toList.length = s.size := Ks.len_list s
  go_enter Tryz.func40, Tryz.ntmps40
  go_wp2_with fail
  go_loopw [3, 4, 5] (fun v f i wr => ∃ k fr : Nat, i = .int .i64 k ∧ f = .int .i64 fr ∧ Hid (∃ acc n xs, Wst s.data.toList k fr acc ∧ acc.length = n ∧ xs = strV acc ∧ wr.ownsRow w.heap.size 9 1 v n xs) ∧ Hid (Below w.heap.size w wr)) (fun _ _ i _ => s.size + 1 - (intOf i).toNat)
  case atStart => exact ⟨0, 0, rfl, rfl, Lib.hid ⟨[], 0, [], .inl ⟨by omega, by omega, by simp, by simp, by simp⟩, rfl, rfl, World.ownsRow_nil _ _ _ _⟩, Lib.hid (Below.refl _ _)⟩
  case round =>
    obtain ⟨k, f, rfl, rfl, HST, HB⟩ := hrel
    obtain ⟨acc, n, xs, hst, hn, hxs, hown⟩ := HST.out
    obtain ⟨hk1, hf1, hn1⟩ := wst_le hst
    have HS := Lib.hid hst
    have HN := Lib.hid hn
    have HX := Lib.hid hxs
    have HO := Lib.hid hown
    clear hst hxs hown HST
    rw [hsl] at hk1
    rw [hn] at hn1
    clear hn
    obtain ⟨q, c, rfl⟩ := own_any HO.out
    have HMK := Lib.hid (ext_mk s f k)
    by_cases hle : k ≤ s.size
    · have i0 : (k : Int) ≤ (s.size : Int) := by omega
      by_cases hlt : k < s.size
      · have i1 : (k : Int) < (s.size : Int) := by omega
        have hbk : s.data.toList[k]? = some s[k] := by rw [List.getElem?_eq_getElem (by rw [Ks.len_list]; exact hlt)]; rfl
        obtain ⟨x, hx⟩ : ∃ x, blankB s[k] = x := ⟨_, rfl⟩
        have HBL := Lib.hid (fun W : World => (rblank_is s[k] x hx W).mono fun _ _ h => (⟨h.1, h.2.symm⟩ : _ ∧ W = _))
        cases x with
        | false =>
          have HT := Lib.hid (wst_on HS.out hbk hx)
          clear hx hbk
          go_wp2_with (go_at_call 59; refine (HBL.out _).mono ?_; rintro e w1 ⟨rfl, rfl⟩)
          go_roundw
          case rel => exact ⟨k + 1, f, by go_num, rfl, Lib.hid ⟨acc, n, xs, HT.out, HN.out, HX.out, HO.out⟩, HB⟩
          case measure => simp [intOf] <;> omega
        | true =>
          by_cases hfk : f < k
          · have i2 : (f : Int) < (k : Int) := by omega
            have i3 : f ≤ k := by omega
            have i4 : k ≤ s.size := hle
            have HT := Lib.hid (wst_word HS.out hbk hx hfk)
            clear hx hbk
            go_wp2_with (first | (go_at_call 59; refine (HBL.out _).mono ?_; rintro e w1 ⟨rfl, rfl⟩) | (at_builtin; refine wpList_append_own _ rfl _ _ 22 rfl w.heap.size 9 i9 (.string ⟨#[]⟩) 1 16 Tryz.underlying22 hi9 hy0 hy1 hy2 rfl (by decide) _ _ _ rfl (HO.out.alloc _) ⟨wr.heap.size, 0, none⟩ 1 1 [.string (s.extract f k)] rfl rfl ?c1 ?c2 ?c3 ?c4 ?c5 ?_))
            case c1 =>
              intro j u hj
              match j, hj with
              | 0, hj => simp at hj; subst hj; simp [Addr.add]
            case c2 => intro u hu; simp at hu; subst hu; rfl
            case c3 => unfold maxLen; omega
            case c4 => omega
            case c5 => have := HB.out.size; simp; omega
            intro v' w2 hown hgr _
            have HBN := Lib.hid ((HB.out.alloc HB.out.size _).grown hgr (by have := HB.out.size; simp; omega) fun j ej => (HO.out.lt j ej).1)
            have HON := Lib.hid hown
            clear hown hgr HO HB
            go_wp2_with fail
            go_roundw
            case rel => exact ⟨k + 1, k + 1, by go_num, by go_num, Lib.hid ⟨_, n + 1, _, HT.out, by rw [List.length_append, HN.out]; rfl, by rw [HX.out, HMK.out, strV_snoc], HON.out⟩, HBN⟩
            case measure => simp [intOf] <;> omega
          · obtain rfl : f = k := by omega
            have HT := Lib.hid (wst_skip HS.out hbk hx)
            clear hx hbk
            go_wp2_with (go_at_call 59; refine (HBL.out _).mono ?_; rintro e w1 ⟨rfl, rfl⟩)
            go_roundw
            case rel => exact ⟨f + 1, f + 1, by go_num, by go_num, Lib.hid ⟨acc, n, xs, HT.out, HN.out, HX.out, HO.out⟩, HB⟩
            case measure => simp [intOf] <;> omega
      · obtain rfl : k = s.size := by omega
        by_cases hfk : f < s.size
        · have i2 : (f : Int) < (s.size : Int) := by omega
          have i3 : f ≤ s.size := by omega
          have HT := Lib.hid (show Wst s.data.toList (s.size + 1) (s.size + 1) (acc ++ [(s.data.toList.take s.size).drop f]) from by
            have := HS.out
            rw [← hsl] at this ⊢
            exact wst_last this (by omega))
          go_wp2_with (first | (at_builtin; refine wpList_append_own _ rfl _ _ 22 rfl w.heap.size 9 i9 (.string ⟨#[]⟩) 1 16 Tryz.underlying22 hi9 hy0 hy1 hy2 rfl (by decide) _ _ _ rfl (HO.out.alloc _) ⟨wr.heap.size, 0, none⟩ 1 1 [.string (s.extract f s.size)] rfl rfl ?c1 ?c2 ?c3 ?c4 ?c5 ?_))
          case c1 =>
            intro j u hj
            match j, hj with
            | 0, hj => simp at hj; subst hj; simp [Addr.add]
          case c2 => intro u hu; simp at hu; subst hu; rfl
          case c3 => unfold maxLen; omega
          case c4 => omega
          case c5 => have := HB.out.size; simp; omega
          intro v' w2 hown hgr _
          have HBN := Lib.hid ((HB.out.alloc HB.out.size _).grown hgr (by have := HB.out.size; simp; omega) fun j ej => (HO.out.lt j ej).1)
          have HON := Lib.hid hown
          clear hown hgr HO HB
          go_wp2_with fail
          go_roundw
          case rel => exact ⟨s.size + 1, s.size + 1, by go_num, by go_num, Lib.hid ⟨_, n + 1, _, HT.out, by rw [List.length_append, HN.out]; rfl, by rw [HX.out, HMK.out, strV_snoc], HON.out⟩, HBN⟩
          case measure => simp [intOf] <;> omega
        · obtain rfl : f = s.size := by omega
          have HT := Lib.hid (show Wst s.data.toList (s.size + 1) (s.size + 1) acc from by
            have := HS.out
            rw [← hsl] at this ⊢
            exact wst_none this)
          go_wp2_with fail
          go_roundw
          case rel => exact ⟨s.size + 1, s.size + 1, by go_num, by go_num, Lib.hid ⟨acc, n, xs, HT.out, HN.out, HX.out, HO.out⟩, HB⟩
          case measure => simp [intOf] <;> omega
    · have HF := Lib.hid (show wordsL s.data.toList = acc.map mkB from by
        rcases HS.out with ⟨h1, _⟩ | ⟨_, _, _, h⟩
        · rw [hsl] at h1; omega
        · rw [words_eq, h]; rfl)
      have hln : (wordsL s.data.toList).length = n := by rw [HF.out, List.length_map, HN.out]
      have HLN := Lib.hid hln
      clear hln
      go_wp2_with fail
      go_ret
      refine ⟨⟨q, c, by rw [HLN.out]; rfl, ?_⟩, HB.out⟩
      have h := HO.out
      rw [HX.out] at h
      rw [HLN.out]
      unfold OwnS
      rw [HLN.out, HF.out, List.map_map]
      exact h
end Go.Proofs.YtempmmkdppelaaaGreatDoor
/-
  The document's split.
-/
namespace Go.Proofs.YtempmmkdppelaaaGreatDoor
open Go.RowKit
/-- how far split has come -/
def Sst (c : UInt8) (l : List UInt8) (k f : Nat) (acc : List (List UInt8)) : Prop :=
  (k ≤ l.length ∧ f ≤ k ∧ acc.length ≤ k ∧ c ∉ (l.take k).drop f ∧ Ks.partsAt c l = acc ++ Ks.partsAt c (l.drop f)) ∨ (k = l.length + 1 ∧ f = k ∧ acc.length ≤ k ∧ Ks.partsAt c l = acc)
theorem drop_mid {l : List UInt8} {k f : Nat} (hf : f ≤ k) (hk : k ≤ l.length) : l.drop f = (l.take k).drop f ++ l.drop k := by
  conv => lhs; rw [← List.take_append_drop k l]
  rw [List.drop_append_of_le_length (by rw [List.length_take]; omega)]
theorem sst_on {c : UInt8} {l : List UInt8} {k f : Nat} {acc : List (List UInt8)} {b : UInt8} (h : Sst c l k f acc) (hb : l[k]? = some b) (hn : ¬ b = c) : Sst c l (k + 1) f acc := by
  have hkl := (List.getElem?_eq_some_iff.1 hb).1
  rcases h with ⟨h1, h2, h3, h4, h5⟩ | ⟨h1, _⟩
  · refine .inl ⟨by omega, by omega, by omega, ?_, h5⟩
    rw [cur_snoc hb h2]
    intro hx
    rcases List.mem_append.1 hx with hx | hx
    · exact h4 hx
    · rw [List.mem_singleton] at hx; exact hn hx.symm
  · omega
theorem sst_cut {c : UInt8} {l : List UInt8} {k f : Nat} {acc : List (List UInt8)} {b : UInt8} (h : Sst c l k f acc) (hb : l[k]? = some b) (hn : b = c) : Sst c l (k + 1) (k + 1) (acc ++ [(l.take k).drop f]) := by
  have hkl := (List.getElem?_eq_some_iff.1 hb).1
  rcases h with ⟨h1, h2, h3, h4, h5⟩ | ⟨h1, _⟩
  · refine .inl ⟨by omega, by omega, by rw [List.length_append]; simp; omega, by rw [cur_nil]; simp, ?_⟩
    rw [h5, drop_mid h2 h1, drop_cons hb, hn, Ks.partsAt_hit _ _ _ h4, List.append_assoc]; rfl
  · omega
theorem sst_last {c : UInt8} {l : List UInt8} {f : Nat} {acc : List (List UInt8)} (h : Sst c l l.length f acc) : Sst c l (l.length + 1) (l.length + 1) (acc ++ [(l.take l.length).drop f]) := by
  rcases h with ⟨h1, h2, h3, h4, h5⟩ | ⟨h1, _⟩
  · refine .inr ⟨rfl, rfl, by rw [List.length_append]; simp; omega, ?_⟩
    rw [h5, drop_mid h2 (Nat.le_refl _), List.drop_length, List.append_nil, Ks.partsAt_miss _ _ h4]
  · omega
theorem sst_le {c : UInt8} {l : List UInt8} {k f : Nat} {acc : List (List UInt8)} (h : Sst c l k f acc) : k ≤ l.length + 1 ∧ f ≤ k ∧ acc.length ≤ k := by
  rcases h with ⟨h1, h2, h3, _⟩ | ⟨h1, h2, h3, _⟩ <;> omega
def partsL (c : UInt8) (l : List UInt8) : List ByteArray := (Ks.partsAt c l).map mkB
theorem u8_eq {x c : UInt8} (h : x = c) : (((x.toNat : Nat) : Int) == ((c.toNat : Nat) : Int)) = true := by subst h; simp
theorem u8_ne {x c : UInt8} (h : ¬ x = c) : (((x.toNat : Nat) : Int) == ((c.toNat : Nat) : Int)) = false := beq_eq_false_iff_ne.2 fun e => h (UInt8.toNat_inj.1 (by omega))
set_option maxHeartbeats 2000000 in
set_option maxRecDepth 100000 in
theorem split_ref (s : ByteArray) (y : UInt8) (yn : Nat) (hyn : y.toNat = yn) (hs : s.size ≤ 2097152) (w : World) : Calls Tryz.prog 39 #[.string s, .int .u8 yn] w fun e w' => (∃ q c, e = .returned (.slice q (partsL y s.data.toList).length c) ∧ OwnS w' w.heap.size (.slice q (partsL y s.data.toList).length c) (partsL y s.data.toList)) ∧ Below w.heap.size w w' := by
  obtain ⟨i9, hi9, hy0, hy1, hy2⟩ := info_parts info9f
  have hsl : s.data.toList.length = s.size := Ks.len_list s
  go_enter Tryz.func39, Tryz.ntmps39
  go_wp2_with fail
  go_loopw [5, 6, 7] (fun v f i wr => ∃ k fr : Nat, i = .int .i64 k ∧ f = .int .i64 fr ∧ Hid (∃ acc n xs, Sst y s.data.toList k fr acc ∧ acc.length = n ∧ xs = strV acc ∧ wr.ownsRow w.heap.size 9 1 v n xs) ∧ Hid (Below w.heap.size w wr)) (fun _ _ i _ => s.size + 1 - (intOf i).toNat)
  case atStart => exact ⟨0, 0, rfl, rfl, Lib.hid ⟨[], 0, [], .inl ⟨by omega, by omega, by simp, by simp, by simp⟩, rfl, rfl, World.ownsRow_nil _ _ _ _⟩, Lib.hid (Below.refl _ _)⟩
  case round =>
    obtain ⟨k, f, rfl, rfl, HST, HB⟩ := hrel
    obtain ⟨acc, n, xs, hst, hn, hxs, hown⟩ := HST.out
    obtain ⟨hk1, hf1, hn1⟩ := sst_le hst
    have HS := Lib.hid hst
    have HN := Lib.hid hn
    have HX := Lib.hid hxs
    have HO := Lib.hid hown
    clear hst hxs hown HST
    rw [hsl] at hk1
    rw [hn] at hn1
    clear hn
    obtain ⟨q, c, rfl⟩ := own_any HO.out
    have HMK := Lib.hid (ext_mk s f k)
    by_cases hle : k ≤ s.size
    · have i0 : (k : Int) ≤ (s.size : Int) := by omega
      have i3 : f ≤ k := hf1
      have i4 : k ≤ s.size := hle
      by_cases hlt : k < s.size
      · have i1 : (k : Int) < (s.size : Int) := by omega
        have g0 : ((k : Int) == (s.size : Int)) = false := beq_eq_false_iff_ne.2 (by omega)
        have hbk : s.data.toList[k]? = some s[k] := by rw [List.getElem?_eq_getElem (by rw [Ks.len_list]; exact hlt)]; rfl
        by_cases hc : s[k] = y
        · have g1 := u8_eq hc
          rw [hyn] at g1
          have HT := Lib.hid (sst_cut HS.out hbk hc)
          clear hbk hc
          go_wp2_with (at_builtin; refine wpList_append_own _ rfl _ _ 22 rfl w.heap.size 9 i9 (.string ⟨#[]⟩) 1 16 Tryz.underlying22 hi9 hy0 hy1 hy2 rfl (by decide) _ _ _ rfl (HO.out.alloc _) ⟨wr.heap.size, 0, none⟩ 1 1 [.string (s.extract f k)] rfl rfl ?c1 ?c2 ?c3 ?c4 ?c5 ?_)
          case c1 =>
            intro j u hj
            match j, hj with
            | 0, hj => simp at hj; subst hj; simp [Addr.add]
          case c2 => intro u hu; simp at hu; subst hu; rfl
          case c3 => unfold maxLen; omega
          case c4 => omega
          case c5 => have := HB.out.size; simp; omega
          intro v' w2 hown hgr _
          have HBN := Lib.hid ((HB.out.alloc HB.out.size _).grown hgr (by have := HB.out.size; simp; omega) fun j ej => (HO.out.lt j ej).1)
          have HON := Lib.hid hown
          clear hown hgr HO HB
          go_wp2_with fail
          go_roundw
          case rel => exact ⟨k + 1, k + 1, by go_num, by go_num, Lib.hid ⟨_, n + 1, _, HT.out, by rw [List.length_append, HN.out]; rfl, by rw [HX.out, HMK.out, strV_snoc], HON.out⟩, HBN⟩
          case measure => simp [intOf] <;> omega
        · have g1 := u8_ne hc
          rw [hyn] at g1
          have HT := Lib.hid (sst_on HS.out hbk hc)
          clear hbk hc
          go_wp2_with fail
          go_roundw
          case rel => exact ⟨k + 1, f, by go_num, rfl, Lib.hid ⟨acc, n, xs, HT.out, HN.out, HX.out, HO.out⟩, HB⟩
          case measure => simp [intOf] <;> omega
      · obtain rfl : k = s.size := by omega
        have g0 : ((s.size : Int) == (s.size : Int)) = true := by simp
        have HT := Lib.hid (show Sst y s.data.toList (s.size + 1) (s.size + 1) (acc ++ [(s.data.toList.take s.size).drop f]) from by
          have := HS.out
          rw [← hsl] at this ⊢
          exact sst_last this)
        go_wp2_with (at_builtin; refine wpList_append_own _ rfl _ _ 22 rfl w.heap.size 9 i9 (.string ⟨#[]⟩) 1 16 Tryz.underlying22 hi9 hy0 hy1 hy2 rfl (by decide) _ _ _ rfl (HO.out.alloc _) ⟨wr.heap.size, 0, none⟩ 1 1 [.string (s.extract f s.size)] rfl rfl ?c1 ?c2 ?c3 ?c4 ?c5 ?_)
        case c1 =>
          intro j u hj
          match j, hj with
          | 0, hj => simp at hj; subst hj; simp [Addr.add]
        case c2 => intro u hu; simp at hu; subst hu; rfl
        case c3 => unfold maxLen; omega
        case c4 => omega
        case c5 => have := HB.out.size; simp; omega
        intro v' w2 hown hgr _
        have HBN := Lib.hid ((HB.out.alloc HB.out.size _).grown hgr (by have := HB.out.size; simp; omega) fun j ej => (HO.out.lt j ej).1)
        have HON := Lib.hid hown
        clear hown hgr HO HB
        go_wp2_with fail
        go_roundw
        case rel => exact ⟨s.size + 1, s.size + 1, by go_num, by go_num, Lib.hid ⟨_, n + 1, _, HT.out, by rw [List.length_append, HN.out]; rfl, by rw [HX.out, HMK.out, strV_snoc], HON.out⟩, HBN⟩
        case measure => simp [intOf] <;> omega
    · have HF := Lib.hid (show partsL y s.data.toList = acc.map mkB from by
        rcases HS.out with ⟨h1, _⟩ | ⟨_, _, _, h⟩
        · rw [hsl] at h1; omega
        · unfold partsL; rw [h])
      have hln : (partsL y s.data.toList).length = n := by rw [HF.out, List.length_map, HN.out]
      have HLN := Lib.hid hln
      clear hln
      go_wp2_with fail
      go_ret
      refine ⟨⟨q, c, by rw [HLN.out]; rfl, ?_⟩, HB.out⟩
      have h := HO.out
      rw [HX.out] at h
      rw [HLN.out]
      unfold OwnS
      rw [HLN.out, HF.out, List.map_map]
      exact h
end Go.Proofs.YtempmmkdppelaaaGreatDoor
