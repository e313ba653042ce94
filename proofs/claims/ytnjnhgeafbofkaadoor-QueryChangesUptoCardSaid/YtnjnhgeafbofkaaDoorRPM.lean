import Derived.Test.YtnjnhgeafbofkaaDoorWGM
import Derived.Shelf.Strings.Replace
import Derived.Deep.LoopGhost
import Derived.Test.YtnjnhgeafbofkaaDoorPBM
import Derived.RangeFuncNested
/-
  strings.ReplaceAll: at texts of less than 2^32 - 15 bytes and an old text that is not empty nor the new one, what it answers is the library's plain function; nothing that was there is changed.
-/
namespace Go.Proofs.YtnjnhgeafbofkaaDoor
open Go.RowKit Go.Shelf
theorem count_is (s old : ByteArray) (m : Int) (w : World) (hs : s.size < 4294967281) (hm : w.cell? ⟨0, 0, none⟩ = some (.int .i64 m)) (h1 : 1 ≤ old.size) :
    Calls Tryd.prog 101 #[.string s, .string old] w fun e w' => e = .returned (.int .i64 (Lib.countB s old)) ∧ w' = w := by
  by_cases h2 : 2 ≤ old.size
  · exact Tryd.strings_Count s old m w hs hm h2
  · exact Any.strings_Count_any Tryd.lays138 s old m w hs hm h1
set_option maxHeartbeats 4000000 in
set_option maxRecDepth 1000000 in
theorem replace_some (s old new : ByteArray) (m : Int) (w : World) (hs : s.size < 4294967281) (hm : w.cell? ⟨0, 0, none⟩ = some (.int .i64 m)) (h1 : 1 ≤ old.size) (hne : old ≠ new) (hc0 : Lib.countB s old ≠ 0)
    (hlen : s.size + Lib.countB s old * new.size ≤ 140737488355328) :
    Calls Tryd.prog 78 #[.string s, .string old, .string new, .int .i64 (-1)] w fun e w' =>
      e = .returned (.string ⟨(Lib.replaceK old.data.toList new.data.toList (Lib.count s.data.toList old.data.toList) s.data.toList).toArray⟩) ∧ Below w.heap.size w w' := by
  have HC := Lib.hid (count_is s old m w hs hm h1)
  have hmul := Lib.countB_mul_le old h1 s.size s (Nat.le_refl _)
  obtain ⟨K, hK⟩ : ∃ K : Nat, Lib.countB s old = K := ⟨_, rfl⟩
  have hK' : Lib.count s.data.toList old.data.toList = K := hK
  rw [hK] at HC hlen hc0 hmul
  rw [hK']
  have hbeq : (old.toList == new.toList) = false := (Lib.bytes_beq_false_iff old new).2 hne
  have hcz : ((K : Int) == 0) = false := beq_eq_false_iff_ne.2 (by omega)
  have hlenL : s.data.toList.length = s.size := (Lib.size_eq s).symm
  have hlenO : old.data.toList.length = old.size := (Lib.size_eq old).symm
  have hgl : 0 < w.heap.size := World.block_lt_of_cell? _ _ hm
  have hKs : K ≤ s.size := Nat.le_trans (Nat.le_mul_of_pos_right K (by omega)) hmul
  have HA := Lib.hid (Lib.grow_arg s.size K new.size old.size (by omega) hmul hlen)
  have HCT := Lib.hid (show K ≤ Lib.count (s.data.toList.drop 0) old.data.toList by rw [List.drop_zero, hK']; exact Nat.le_refl _)
  have HM := Lib.hid hm
  have HL := Lib.hid hlenL
  have HO := Lib.hid hlenO
  have hod : decide (0 < old.size) = true := decide_eq_true (by omega)
  clear hK hK' hm hlenL hlenO
  go_enter Tryd.func78, Tryd.ntmps78
  go_wp2_with (first | (go_at_call 101; refine HC.out.mono ?_; rintro e w' ⟨rfl, hw⟩; rw [hw]))
  try rw [HA.out]
  refine (bGrow 47 bt47 w.heap.size w.heap.size _ _ (Nat.le_refl _) (heap_alloc_new w _) (by simp) (by omega)).mono ?_
  rintro e w1 ⟨rfl, hb0, hb1⟩
  have H1 := Lib.hid (show IsB 47 w.heap.size w.heap.size [] w1 from .inr (Lib.BuilderAtF.of hb0))
  have Hb1 := Lib.hid (((Below.refl w.heap.size w).alloc (Nat.le_refl _) _).trans hb1)
  clear hb0 hb1 HA HC
  go_wp2_with fail
  go_loopg [11, 53] K (fun g s11 s53 wx => ∃ (i start : Nat) (acc : List UInt8), s53 = .int .i64 i ∧ s11 = .int .i64 start ∧ i + g = K ∧ start ≤ s.size ∧
    Hid (IsB 47 w.heap.size w.heap.size acc wx) ∧ Hid (Below w.heap.size w wx) ∧ Hid (acc ++ Lib.replaceK old.data.toList new.data.toList g (s.data.toList.drop start) = Lib.replaceK old.data.toList new.data.toList K s.data.toList) ∧
    Hid (g ≤ Lib.count (s.data.toList.drop start) old.data.toList) ∧ acc.length + (s.size - start) + g * new.size ≤ s.size + K * new.size)
  case atStart => exact ⟨0, 0, [], rfl, rfl, by omega, Nat.zero_le _, H1, Hb1, Lib.hid (by simp), HCT, by simp⟩
  case round =>
    obtain ⟨i, start, acc, rfl, rfl, hig, hst, HB, HW, HR, HGC, hbd⟩ := hrel
    have hBw : w.heap.size ≤ wr.heap.size := HW.out.size
    have c1 : (0 : Int) ≤ (start : Int) := by omega
    have c2 : (start : Int) ≤ (s.size : Int) := by omega
    cases gk with
    | zero =>
      have hiK : ¬ ((i : Int) < (K : Int)) := by omega
      go_wp2_with fail
      refine (bStr 47 bt47 w.heap.size w.heap.size _ _ wr HB.out (by rw [ByteArray.size_extract]; omega) hBw).mono ?_
      rintro e w3 ⟨rfl, h3, hb3, _⟩
      rw [Lib.extract_to_end] at h3
      have hfin : acc ++ s.data.toList.drop start = Lib.replaceK old.data.toList new.data.toList K s.data.toList := HR.out
      rw [hfin] at h3
      have H3 := Lib.hid h3
      have Hb3 := Lib.hid (HW.out.trans hb3)
      have hBw3 : w.heap.size ≤ w3.heap.size := Hb3.out.size
      clear h3 hb3 hfin
      go_wp2_with fail
      refine (bString 47 w.heap.size w.heap.size _ w3 H3.out hBw3).mono ?_
      rintro e w5 ⟨rfl, hb5, _⟩
      have Hb5 := Lib.hid (Hb3.out.trans hb5)
      clear hb5
      go_wp2
      go_ret
      exact ⟨rfl, Hb5.out⟩
    | succ g =>
      have hiK : (i : Int) < (K : Int) := by omega
      obtain ⟨j, hj⟩ := Lib.index_of_count (s := s.data.toList.drop start) (old := old.data.toList) (by have := HGC.out; omega)
      have hroom : j + old.size ≤ s.size - start := by
        have := Lib.index_room (s.data.toList.drop start) old.data.toList (by rw [hj]; omega)
        rw [hj, List.length_drop, HL.out, HO.out] at this
        omega
      have hmr : wr.cell? ⟨0, 0, none⟩ = some (.int .i64 m) := by rw [HW.out.cell (p := ⟨0, 0, none⟩) hgl]; exact HM.out
      have hsucc : (g + 1) * new.size = g * new.size + new.size := Nat.succ_mul _ _
      have c3 : (start : Int) ≤ (start : Int) + (j : Int) := by omega
      have c4 : (start : Int) + (j : Int) ≤ (s.size : Int) := by omega
      have Hn := Lib.hid (show acc ++ (s.extract start (start + j)).data.toList ++ new.data.toList = acc ++ (s.data.toList.drop start).take j ++ new.data.toList by
        rw [Lib.extract_data, Nat.add_sub_cancel_left])
      have Hrep := Lib.hid (show (acc ++ (s.data.toList.drop start).take j ++ new.data.toList) ++ Lib.replaceK old.data.toList new.data.toList g (s.data.toList.drop (start + j + old.size)) = Lib.replaceK old.data.toList new.data.toList K s.data.toList by
        rw [← HR.out, Lib.replaceK_hit _ _ g _ j hj, List.drop_drop, HO.out]
        simp only [List.append_assoc, Nat.add_assoc])
      have Hcnt := Lib.hid (show g ≤ Lib.count (s.data.toList.drop (start + j + old.size)) old.data.toList by
        have h0 := HGC.out
        have := Lib.count_hit (s := s.data.toList.drop start) (sub := old.data.toList) (i := j) (fun e => by have hO := HO.out; rw [e] at hO; simp at hO; omega) hj
        rw [List.drop_drop, HO.out] at this
        rw [show start + j + old.size = start + (j + old.size) by omega]
        omega)
      have htl : ((s.data.toList.drop start).take j).length = j := by rw [List.length_take, List.length_drop, HL.out]; omega
      have HTL := Lib.hid htl
      have HIX := Lib.hid (show Calls Tryd.prog 73 #[.string (s.extract start s.size), .string old] wr fun e w' => e = .returned (.int .i64 j) ∧ w' = wr from by
        have := Tryd.strings_Index (s.extract start s.size) old m wr (by rw [ByteArray.size_extract]; omega) hmr
        rw [Lib.extract_to_end, hj] at this
        exact this)
      clear HR HGC htl hj hmr
      go_wp2_with (first | (go_at_call 73; refine HIX.out.mono ?_; rintro e w' ⟨rfl, hw⟩; rw [hw]))
      refine (bStr 47 bt47 w.heap.size w.heap.size _ (s.extract start (start + j)) wr HB.out (by rw [ByteArray.size_extract]; omega) hBw).mono ?_
      rintro e w3 ⟨rfl, h3, hb3, _⟩
      have hBw3 : w.heap.size ≤ w3.heap.size := Nat.le_trans hBw hb3.size
      have H3 := Lib.hid h3
      have Hb3 := Lib.hid hb3
      clear h3 hb3
      go_wp2_with fail
      refine (bStr 47 bt47 w.heap.size w.heap.size _ new w3 H3.out (by rw [List.length_append, ← Lib.size_eq, ByteArray.size_extract]; omega) hBw3).mono ?_
      rintro e w4 ⟨rfl, h4, hb4, _⟩
      rw [Hn.out] at h4
      have H4 := Lib.hid h4
      have Hb4 := Lib.hid ((HW.out.trans Hb3.out).trans hb4)
      clear h4 hb4
      go_wp2
      go_roundg g
      case measure => omega
      case rel => exact ⟨i + 1, start + j + old.size, _, by first | rfl | (simp; unfold wrap64; omega), by first | rfl | simp | (simp; unfold wrap64; omega), by omega, by omega, H4, Hb4, Hrep, Hcnt, by simp only [List.length_append, HTL.out, ← Lib.size_eq]; omega⟩
set_option maxHeartbeats 1000000 in
set_option maxRecDepth 1000000 in
theorem replace_absent (s old new : ByteArray) (m : Int) (w : World) (hs : s.size < 4294967281) (hm : w.cell? ⟨0, 0, none⟩ = some (.int .i64 m)) (h1 : 1 ≤ old.size) (hne : old ≠ new) (hc0 : Lib.countB s old = 0) :
    Calls Tryd.prog 78 #[.string s, .string old, .string new, .int .i64 (-1)] w fun e w' => e = .returned (.string s) ∧ w' = w := by
  have hC := count_is s old m w hs hm h1
  rw [hc0] at hC
  have HC := Lib.hid hC
  have hbeq : (old.toList == new.toList) = false := (Lib.bytes_beq_false_iff old new).2 hne
  clear hC hm
  go_enter Tryd.func78, Tryd.ntmps78
  go_wp2_with (first | (go_at_call 101; refine HC.out.mono ?_; rintro e w' ⟨rfl, hw⟩; rw [hw]))
  go_ret
  exact ⟨rfl, rfl⟩
/-- what ReplaceAll answers -/
def rpl (old new l : List UInt8) : List UInt8 := Lib.replaceK old new (Lib.count l old) l
set_option maxHeartbeats 1000000 in
theorem replaceAll_is (s old new : ByteArray) (T : List UInt8) (hT : rpl old.data.toList new.data.toList s.data.toList = T) (m : Int) (w : World) (hs : s.size < 4294967281) (hm : w.cell? ⟨0, 0, none⟩ = some (.int .i64 m)) (h1 : 1 ≤ old.size) (hne : old ≠ new) (hn : new.size ≤ 4) :
    Calls Tryd.prog 53 #[.string s, .string old, .string new] w fun e w' => e = .returned (.string ⟨T.toArray⟩) ∧ Below w.heap.size w w' := by
  have c : Calls Tryd.prog 78 #[.string s, .string old, .string new, .int .i64 (-1)] w fun e w' => e = .returned (.string ⟨T.toArray⟩) ∧ Below w.heap.size w w' := by
    by_cases hc0 : Lib.countB s old = 0
    · refine (replace_absent s old new m w hs hm h1 hne hc0).mono fun e w' ⟨h1', h2'⟩ => ⟨?_, h2' ▸ Below.refl _ _⟩
      have e0 : Lib.count s.data.toList old.data.toList = 0 := hc0
      rw [h1', ← hT, rpl, e0, Lib.replaceK, Lib.mk_data]
    · have hm' := Lib.countB_mul_le old h1 s.size s (Nat.le_refl _)
      have h2 : Lib.countB s old ≤ s.size := Nat.le_trans (Nat.le_mul_of_pos_right _ (by omega)) hm'
      have h3 : Lib.countB s old * new.size ≤ s.size * 4 := Nat.mul_le_mul h2 hn
      have := replace_some s old new m w hs hm h1 hne hc0 (by omega)
      rw [← hT]
      exact this
  have C := Lib.hid c
  clear c hT hm
  go_enter Tryd.func53, Tryd.ntmps53
  go_wp2_with (go_at_call 78; refine C.out.mono ?_; rintro e w' ⟨rfl, hw⟩)
  go_ret
  exact ⟨rfl, hw⟩
end Go.Proofs.YtnjnhgeafbofkaaDoor
/-
  Plain words for lists of pairs of texts, where they lie, and the contracts of the two predicates (a pair that is too long, a pair of a name) and of slices.IndexFunc and ContainsFunc with them. No conditions but that a list's length fits.
-/
namespace Go.Proofs.YtnjnhgeafbofkaaDoor
open Go.RowKit
/-- a pair of texts -/
abbrev Fd := ByteArray × ByteArray
def encF (x : Fd) : List Value := [.string x.1, .string x.2]
/-- the slice v reads in w as the list l of pairs -/
def Lst (w : World) (v : Value) (l : List Fd) : Prop :=
  ∃ (p : Option Addr) (cap : Nat), v = .slice p l.length cap ∧ ∀ i x, l[i]? = some x → ∃ g o, p = some ⟨g, o, none⟩ ∧ g < w.heap.size ∧ w.cell? ⟨g, o + i * 2, none⟩ = some (.string x.1) ∧ w.cell? ⟨g, o + i * 2 + 1, none⟩ = some (.string x.2)
theorem Lst.below {w w' : World} {v : Value} {l : List Fd} (h : Lst w v l) (hb : Below w.heap.size w w') : Lst w' v l := by
  obtain ⟨p, cap, hv, hc⟩ := h
  refine ⟨p, cap, hv, fun i x hi => ?_⟩
  obtain ⟨g, o, hp, hg, h1, h2⟩ := hc i x hi
  exact ⟨g, o, hp, Nat.lt_of_lt_of_le hg hb.size, (hb.cell (p := ⟨g, o + i * 2, none⟩) hg).trans h1, (hb.cell (p := ⟨g, o + i * 2 + 1, none⟩) hg).trans h2⟩
theorem getF {l : List Fd} {k : Nat} (h : k < l.length) : l[k]? = some l[k] := List.getElem?_eq_getElem h
/-- the pair's texts are of at most 4096 bytes each -/
def longF (x : Fd) : Bool := decide (4096 < x.1.size) || decide (4096 < x.2.size)
set_option maxHeartbeats 400000 in
theorem long_is (a b : ByteArray) (w : World) : Calls Tryd.prog 24 #[.agg #[.string a, .string b]] w fun e w' => e = .returned (.bool (longF (a, b))) ∧ Below w.heap.size w w' := by
  have hb := bnew w (.cells #[.string a, .string b] 38)
  have HB := Lib.hid hb
  have h0 : (w.alloc (.cells #[.string a, .string b] 38)).cell? ⟨w.heap.size, 0, none⟩ = some (.string a) := cell_of_row _ _ 0 _ _ _ (heap_alloc_new w _)
  have h1 : (w.alloc (.cells #[.string a, .string b] 38)).cell? ⟨w.heap.size, 1, none⟩ = some (.string b) := cell_of_row _ _ 1 _ _ _ (heap_alloc_new w _)
  clear hb
  by_cases ha : 4096 < a.size
  · have HR := Lib.hid (show longF (a, b) = true by simp [longF, ha])
    have g1 : decide ((4096 : Int) < (a.size : Int)) = true := by simp; omega
    go_enter Tryd.func24, Tryd.ntmps24
    go_wp2
    go_ret
    exact ⟨ret_bool HR.out.symm, HB.out⟩
  · have HR := Lib.hid (show longF (a, b) = decide ((4096 : Int) < (b.size : Int)) by simp [longF, ha]; omega)
    have g1 : decide ((4096 : Int) < (a.size : Int)) = false := by simp; omega
    go_enter Tryd.func24, Tryd.ntmps24
    go_wp2
    go_ret
    exact ⟨ret_bool HR.out.symm, HB.out⟩
/-- what IndexFunc answers -/
def idxI (p : Fd → Bool) (l : List Fd) : Int := match l.findIdx? p with
  | some i => i
  | none => -1
theorem idx_none {p : Fd → Bool} {l : List Fd} (h : ∀ (j : Nat) (x : Fd), l[j]? = some x → p x = false) : idxI p l = -1 := by
  have : l.findIdx? p = none := by
    rw [List.findIdx?_eq_none_iff]
    intro x hx
    obtain ⟨j, hj, rfl⟩ := List.getElem_of_mem hx
    exact h j _ (getF hj)
  simp [idxI, this]
theorem idx_some {p : Fd → Bool} {l : List Fd} {k : Nat} (hk : k < l.length) (h : ∀ (j : Nat) (x : Fd), j < k → l[j]? = some x → p x = false) (h1 : p l[k] = true) : idxI p l = k := by
  have : l.findIdx? p = some k := by
    rw [List.findIdx?_eq_some_iff_getElem]
    refine ⟨hk, h1, fun j hj => ?_⟩
    have := h j _ hj (getF (by omega))
    simp [this]
  simp [idxI, this]
set_option maxHeartbeats 1000000 in
theorem indexLong (v : Value) (l : List Fd) (r : Int) (hr : idxI longF l = r) (hm : l.length ≤ 140737488355328) (w : World) (hv : Lst w v l) :
    Calls Tryd.prog 33 #[v, .func (.func 24) #[] #[]] w fun e w' => e = .returned (.int .i64 r) ∧ Below w.heap.size w w' := by
  obtain ⟨p, cap, rfl, hA⟩ := hv
  have HA := Lib.hid hA
  have HR := Lib.hid hr
  clear hA hr
  go_enter Tryd.func33, Tryd.ntmps33
  go_wp2_with fail
  go_loopw [8] (fun i wr => ∃ k : Nat, k ≤ l.length ∧ i = .int .i64 k ∧ Hid (∀ (j : Nat) (x : Fd), j < k → l[j]? = some x → longF x = false) ∧ Below w.heap.size w wr) (fun i _ => l.length - (intOf i).toNat)
  case atStart => exact ⟨0, by omega, rfl, Lib.hid (by intro j x hj; omega), Below.refl _ _⟩
  case round =>
    obtain ⟨k, hk, rfl, HE, hbel⟩ := hrel
    by_cases hlt : k < l.length
    · obtain ⟨g, o, rfl, hg, hx, hy⟩ := HA.out k l[k] (getF hlt)
      have hx2 := (hbel.cell (p := ⟨g, o + k * 2, none⟩) hg).trans hx
      have hy2 := (hbel.cell (p := ⟨g, o + k * 2 + 1, none⟩) hg).trans hy
      have i1 : (k : Int) < (l.length : Int) := by omega
      have HB := Lib.hid hbel
      have HS := Lib.hid (show longF l[k] = true → idxI longF l = k from fun e => idx_some hlt HE.out e)
      have HN := Lib.hid (show longF l[k] = false → ∀ (j : Nat) (x : Fd), j < k + 1 → l[j]? = some x → longF x = false from fun e j x hj hxx => by
        by_cases hjk : j = k
        · subst hjk; rw [getF hlt] at hxx; cases hxx; exact e
        · exact HE.out j x (by omega) hxx)
      clear hx hy hbel HE
      generalize l[k] = f at *
      obtain ⟨a, b⟩ := f
      go_wp2_with fail
      refine (long_is a b _).mono ?_
      rintro e w1 ⟨rfl, hb1⟩
      have HB1 := Lib.hid (bel2 HB.out hb1)
      clear hb1
      cases hl : longF (a, b) with
      | true =>
        go_wp2
        go_ret
        exact ⟨ret_int (by rw [← HR.out, HS.out hl]), HB1.out⟩
      | false =>
        go_wp2
        go_roundw
        case rel => exact ⟨k + 1, by omega, by go_num, Lib.hid (HN.out hl), HB1.out⟩
        case measure => simp [intOf]; omega
    · have HD := Lib.hid (show idxI longF l = -1 from idx_none fun j x hj => HE.out j x (by have := (List.getElem?_eq_some_iff.1 hj).1; omega) hj)
      go_wp2
      go_ret
      exact ⟨ret_int (by rw [← HR.out, HD.out]), hbel⟩
theorem idx_geq (p : Fd → Bool) (l : List Fd) : decide (0 ≤ idxI p l) = l.any p := by
  rw [Bool.eq_iff_iff, decide_eq_true_eq]
  unfold idxI
  cases h : l.findIdx? p with
  | some i =>
    have h2 := List.findIdx?_eq_some_iff_getElem.1 h
    obtain ⟨hi, h3, _⟩ := h2
    simp only [List.any_eq_true]
    exact ⟨fun _ => ⟨_, List.getElem_mem hi, h3⟩, fun _ => by omega⟩
  | none =>
    rw [List.findIdx?_eq_none_iff] at h
    simp only [List.any_eq_true]
    constructor
    · intro h; omega
    · rintro ⟨x, hx, hp⟩; rw [h x hx] at hp; cases hp
set_option maxHeartbeats 400000 in
theorem anyLong (v : Value) (l : List Fd) (b : Bool) (hb : l.any longF = b) (hm : l.length ≤ 140737488355328) (w : World) (hv : Lst w v l) :
    Calls Tryd.prog 25 #[v, .func (.func 24) #[] #[]] w fun e w' => e = .returned (.bool b) ∧ Below w.heap.size w w' := by
  obtain ⟨r, hr⟩ : ∃ r, idxI longF l = r := ⟨_, rfl⟩
  have HC := Lib.hid (indexLong v l r hr hm w hv)
  have HR := Lib.hid (show decide (0 ≤ r) = b by rw [← hr, idx_geq, hb])
  obtain ⟨p, cap, rfl, _⟩ := hv
  clear hr hb
  go_enter Tryd.func25, Tryd.ntmps25
  go_wp2_with (go_at_call 33; refine HC.out.mono ?_; rintro e w1 ⟨rfl, hb1⟩)
  go_ret
  exact ⟨ret_bool HR.out, hb1⟩
end Go.Proofs.YtnjnhgeafbofkaaDoor
