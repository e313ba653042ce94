import Derived.Test.YtflddokngplgiaaDoorA3M
import Derived.Test.YtflddokngplgiaaDoorA4M
import Derived.Deep.OwnRows
import Derived.Deep.LoopGhost
import Derived.Lib.Split
namespace Go.Proofs.YtflddokngplgiaaDoor
open Go.RowKit
/-- what stands between the bytes c -/
def partsAt (c : UInt8) : List UInt8 → List (List UInt8)
  | [] => [[]]
  | b :: r => if b = c then [] :: partsAt c r else ((b :: (partsAt c r).headD []) :: (partsAt c r).tail)
theorem partsAt_ne (c : UInt8) (l : List UInt8) : partsAt c l ≠ [] := by
  cases l with
  | nil => simp [partsAt]
  | cons b r => unfold partsAt; split <;> simp
theorem partsAt_hit (c : UInt8) (p r : List UInt8) (hp : c ∉ p) : partsAt c (p ++ c :: r) = p :: partsAt c r := by
  induction p with
  | nil => simp [partsAt]
  | cons b q ih =>
    have hb : ¬ b = c := fun e => hp (by simp [e])
    have hq : c ∉ q := fun h => hp (List.mem_cons_of_mem _ h)
    rw [List.cons_append, partsAt, if_neg hb, ih hq]
    rfl
theorem partsAt_miss (c : UInt8) (l : List UInt8) (h : c ∉ l) : partsAt c l = [l] := by
  induction l with
  | nil => rfl
  | cons b q ih =>
    have hb : ¬ b = c := fun e => h (by simp [e])
    have hq : c ∉ q := fun h' => h (List.mem_cons_of_mem _ h')
    rw [partsAt, if_neg hb, ih hq]
    rfl
theorem idx_cases (l : List UInt8) (c : UInt8) : (Lib.indexByte l c = -1 ∧ c ∉ l) ∨ ∃ i : Nat, Lib.indexByte l c = i ∧ i < l.length ∧ l[i]? = some c ∧ c ∉ l.take i := by
  induction l with
  | nil => exact .inl ⟨rfl, by simp⟩
  | cons b r ih =>
    unfold Lib.indexByte
    by_cases hb : b = c
    · refine .inr ⟨0, by simp [hb], by simp, by simp [hb], by simp⟩
    · have hb' : (b == c) = false := by simpa using hb
      rw [hb']
      rcases ih with ⟨h1, h2⟩ | ⟨i, h1, h2, h3, h4⟩
      · refine .inl ⟨by simp [h1], fun h => ?_⟩
        rcases List.mem_cons.1 h with h | h
        · exact hb h.symm
        · exact h2 h
      · refine .inr ⟨i + 1, ?_, by simpa using h2, by simpa using h3, ?_⟩
        · have : (Lib.indexByte r c == -1) = false := by rw [h1]; rw [beq_eq_false_iff_ne]; omega
          rw [if_neg (by simp), this, if_neg (by simp), h1]; simp
        · rw [List.take_succ_cons]
          intro h
          rcases List.mem_cons.1 h with h | h
          · exact hb h.symm
          · exact h4 h
theorem partsAt_idx (c : UInt8) (l : List UInt8) (i : Nat) (hi : i < l.length) (h : l[i]? = some c) (hn : c ∉ l.take i) : partsAt c l = l.take i :: partsAt c (l.drop (i + 1)) := by
  have e : l = l.take i ++ c :: l.drop (i + 1) := by
    have h1 : l[i] = c := by rw [List.getElem?_eq_getElem hi] at h; exact Option.some.inj h
    conv => lhs; rw [← List.take_append_drop i l]
    rw [List.drop_eq_getElem_cons hi, h1]
  conv => lhs; rw [e]
  exact partsAt_hit c _ _ hn
theorem ext_take (s : ByteArray) (k : Nat) : (s.extract 0 k).data.toList = s.data.toList.take k := by
  simp only [ByteArray.data_extract, Array.toList_extract, List.extract_eq_take_drop]
  simp
/-- up to five parts -/
def SplRet (w : World) (s : ByteArray) (e : Ending) (w' : World) : Prop := ∃ (l : List ByteArray) (N : Nat), e = .returned (.slice (some ⟨w.heap.size, 0, none⟩) l.length N) ∧ w' = w.alloc (.cells (Lib.cellsOf l N) 9) ∧ l.length ≤ N ∧ 1 ≤ l.length ∧ l.length ≤ 5 ∧ (l.length = 5 → 5 ≤ (partsAt 46 s.data.toList).length) ∧ (l.length ≤ 4 → l.map (fun x => x.data.toList) = partsAt 46 s.data.toList)
theorem spl_end {w w' : World} {s rest : ByteArray} {done : List ByteArray} {N : Nat} {e : Ending} (hN : N = min 5 (s.size + 1)) (hd : done.length ≤ N - 1) (hs : done.map (fun x => x.data.toList) ++ partsAt 46 rest.data.toList = partsAt 46 s.data.toList) (hr : done.length + rest.size ≤ s.size) (hx : 46 ∉ rest.data.toList ∨ ¬ done.length < N - 1)
    (he : e = .returned (.slice (some ⟨w.heap.size, 0, none⟩) (done.length + 1) N)) (hw : w' = w.alloc (.cells ((Lib.cellsOf done N).setIfInBounds done.length (.string rest)) 9)) : SplRet w s e w' := by
  have hone : done.length + 1 ≤ 4 → partsAt 46 rest.data.toList = [rest.data.toList] := by
    intro h4
    rcases hx with hx | hx
    · exact partsAt_miss 46 _ hx
    · have : rest.data.toList = [] := List.length_eq_zero_iff.1 (by rw [Array.length_toList]; show rest.size = 0; omega)
      rw [this]; rfl
  refine ⟨done ++ [rest], N, by rw [he]; simp, by rw [hw, Lib.cellsOf_set (by omega)], by simp; omega, by simp, by simp; omega, fun h5 => ?_, fun h4 => ?_⟩
  · rw [← hs, List.length_append, List.length_map]
    have h1 : 1 ≤ (partsAt 46 rest.data.toList).length := by
      have := partsAt_ne 46 rest.data.toList
      cases hq : partsAt 46 rest.data.toList with
      | nil => exact absurd hq this
      | cons _ _ => simp
    simp at h5
    omega
  · rw [← hs, hone (by simpa using h4)]; simp
set_option maxHeartbeats 4000000 in
set_option maxRecDepth 1000000 in
theorem gen5 (s : ByteArray) (hs : s.size ≤ 140737488355328) (w : World) :
    Calls Tryd.prog 36 #[.string s, .string ⟨#[46]⟩, .int .i64 0, .int .i64 5] w (SplRet w s) := by
  obtain ⟨N, hN⟩ : ∃ N, N = min 5 (s.size + 1) := ⟨_, rfl⟩
  have hN5 : N ≤ 5 := by omega
  have hN1 : 1 ≤ N := by omega
  have hmn : min (5 : Int) ((s.size : Int) + 1) = (N : Int) := by omega
  have hmk := run_make_row' (P := Tryd.prog) 40 9 (.string ByteArray.empty) 16 Tryd.underlying40 (by kernel_rfl) rfl .i64 .i64 N (by omega) (by omega)
  have HN := Lib.hid hN
  clear hN
  go_enter Tryd.func36, Tryd.ntmps36
  go_wp2_with fail
  clear hmk hmn
  go_loopg [0, 10] (N - 1) (fun g s0 s10 wr => ∃ (done : List ByteArray) (rest : ByteArray), s0 = .string rest ∧ s10 = .int .i64 done.length ∧ done.length ≤ N - 1 ∧ g = N - 1 - done.length ∧ done.length + rest.size ≤ s.size ∧
      wr = w.alloc (.cells (Lib.cellsOf done N) 9) ∧ Hid (done.map (fun x => x.data.toList) ++ partsAt 46 rest.data.toList = partsAt 46 s.data.toList))
  case atStart => exact ⟨[], s, rfl, rfl, Nat.zero_le _, rfl, by simp, by rw [Lib.cellsOf_nil], Lib.hid rfl⟩
  case round =>
    obtain ⟨done, rest, rfl, rfl, hd, rfl, hrs, rfl, HS⟩ := hrel
    have hnext : (Lib.cellsOf done N)[done.length]? = some (.string ByteArray.empty) := Lib.cellsOf_next (by omega)
    by_cases hlt : done.length < N - 1
    · have hltz : ((done.length : Nat) : Int) < (N : Int) - 1 := by omega
      rcases idx_cases rest.data.toList 46 with ⟨hix, hno⟩ | ⟨i, hix, hil, hat, hno⟩
      · have HX := Lib.hid hix
        have HY := Lib.hid hno
        clear hix hno
        go_wp2_with (go_at_call 52; refine (Tryd.strings_Index_one rest 46 _).mono ?_; rintro e w' ⟨rfl, hw⟩; rw [hw, HX.out])
        go_ret
        exact spl_end HN.out hd HS.out hrs (.inl HY.out) rfl rfl
      · have hir : i < rest.size := by simpa using hil
        have c0 : ¬ ((i : Int) < 0) := by omega
        have c2 : (↑i : Int) ≤ ↑rest.size := by omega
        have c3 : (0 : Int) ≤ ↑i + 1 := by omega
        have c4 : (↑i + 1 : Int) ≤ ↑rest.size := by omega
        have HX := Lib.hid hix
        have HY := Lib.hid hno
        have HZ := Lib.hid hat
        clear hix hno hat hil
        go_wp2_with (go_at_call 52; refine (Tryd.strings_Index_one rest 46 _).mono ?_; rintro e w' ⟨rfl, hw⟩; rw [hw, HX.out])
        go_roundg (N - 1 - (done.length + 1))
        case measure => omega
        case rel =>
          refine ⟨done ++ [rest.extract 0 i], rest.extract (i + 1) rest.size, rfl, by simp, by simp; omega, by simp, by rw [ByteArray.size_extract]; simp; omega, by rw [← Lib.cellsOf_set (by omega)], Lib.hid ?_⟩
          rw [← HS.out, partsAt_idx 46 _ i (by simpa using hir) HZ.out HY.out, List.map_append, ext_drop]
          simp
    · have hltz : ¬ (((done.length : Nat) : Int) < (N : Int) - 1) := by omega
      go_wp2_with fail
      go_ret
      exact spl_end HN.out hd HS.out hrs (.inr hlt) rfl rfl

set_option maxHeartbeats 1000000 in
theorem split5 (s : ByteArray) (hs : s.size ≤ 140737488355328) (w : World) :
    Calls Tryd.prog 23 #[.string s, .string ⟨#[46]⟩, .int .i64 5] w (SplRet w s) := by
  have HC := Lib.hid (gen5 s hs w)
  go_enter Tryd.func23, Tryd.ntmps23
  go_wp2_with fail
  refine HC.out.mono ?_
  rintro e w' ⟨l, N, rfl, h1, h2, h3, h4, h5, h6⟩
  have HX := Lib.hid (And.intro h1 (And.intro h2 (And.intro h3 (And.intro h4 (And.intro h5 h6)))))
  clear h1 h2 h3 h4 h5 h6
  go_wp2_with fail
  go_ret
  exact ⟨l, N, rfl, HX.out⟩
/-- the text without one full stop at its end -/
def noDot (l : List UInt8) : List UInt8 := if l.getLast? = some 46 then l.dropLast else l
theorem trim_dot (l : List UInt8) : Lib.trimSuffix l [46] = noDot l := by
  unfold Lib.trimSuffix noDot
  rcases List.eq_nil_or_concat l with rfl | ⟨r, b, rfl⟩
  · rfl
  · rw [List.concat_eq_append]
    by_cases h : b = 46
    · subst h
      have : Lib.hasSuffix (r ++ [46]) [46] = true := List.isSuffixOf_iff_suffix.2 (List.suffix_append _ _)
      rw [if_pos this, if_pos (by simp)]; simp
    · have : Lib.hasSuffix (r ++ [b]) [46] = false := by
        rw [Bool.eq_false_iff]
        intro hs
        obtain ⟨t, ht⟩ := List.isSuffixOf_iff_suffix.1 hs
        have := (List.append_inj' ht rfl).2
        exact h (by injection this with h1 _; exact h1.symm)
      rw [if_neg (by rw [this]; simp), if_neg (by simpa using h)]
theorem noDot_len (l : List UInt8) : (noDot l).length ≤ l.length := by
  unfold noDot; split <;> simp
end Go.Proofs.YtflddokngplgiaaDoor
namespace Go.Proofs.YtflddokngplgiaaDoor
open Go.RowKit
def pw : Nat → Nat
  | 0 => 4294967296
  | 1 => 16777216
  | 2 => 65536
  | 3 => 256
  | _ => 1
/-- the parts from place k on, as a number -/
def sum4 : Nat → List (List UInt8) → Option Nat
  | _, [] => none
  | k, [p] => (numO p).bind fun n => if n < pw k then some n else none
  | k, p :: q :: r => (numO p).bind fun n => if n < 256 then (sum4 (k + 1) (q :: r)).map (n * pw (k + 1) + ·) else none
def v4P (ps : List (List UInt8)) : Option Nat := if ps.length ≤ 4 then sum4 0 ps else none
def v4O (l : List UInt8) : Option Nat := v4P (partsAt 46 (noDot l))
/-- what V4 answers -/
def ansE (o : Option Nat) : Ending := match o with
  | none => .returned (.tuple #[.int .u32 0, .int .i64 17])
  | some n => .returned (.tuple #[.int .u32 n, .int .i64 0])
theorem map_id_add (o : Option Nat) : o.map (0 + ·) = o := by cases o <;> simp
def R4 (ps : List (List UInt8)) (k acc : Nat) : Prop :=
  (k < ps.length → sum4 0 ps = (sum4 k (ps.drop k)).map (acc + ·) ∧ acc + pw k ≤ 4294967296) ∧ (k = ps.length → sum4 0 ps = some acc ∧ acc < 4294967296)
theorem R4_start (ps : List (List UInt8)) (h : 0 < ps.length) : R4 ps 0 0 :=
  ⟨fun _ => ⟨by rw [List.drop_zero, map_id_add], by decide⟩, fun e => by omega⟩
theorem drop_one {ps : List (List UInt8)} {k : Nat} (h : k + 1 = ps.length) : ps.drop k = [ps[k]] := by
  rw [List.drop_eq_getElem_cons (by omega), List.drop_of_length_le (by omega)]
theorem drop_two {ps : List (List UInt8)} {k : Nat} (h : k + 1 < ps.length) : ps.drop k = ps[k] :: ps[k + 1] :: ps.drop (k + 2) := by
  rw [List.drop_eq_getElem_cons (by omega), List.drop_eq_getElem_cons h]
theorem R4_none {ps : List (List UInt8)} {k acc : Nat} (h : R4 ps k acc) (hk : k < ps.length) (hn : numO ps[k] = none) : sum4 0 ps = none := by
  rw [(h.1 hk).1]
  by_cases e : k + 1 = ps.length
  · rw [drop_one e, sum4, hn]; rfl
  · rw [drop_two (by omega), sum4, hn]; rfl
theorem R4_big {ps : List (List UInt8)} {k acc n : Nat} (h : R4 ps k acc) (hk : k < ps.length) (hn : numO ps[k] = some n) (hb : ¬ n < if k + 1 = ps.length then pw k else 256) : sum4 0 ps = none := by
  rw [(h.1 hk).1]
  by_cases e : k + 1 = ps.length
  · rw [if_pos e] at hb
    rw [drop_one e, sum4, hn]; simp [hb]
  · rw [if_neg e] at hb
    rw [drop_two (by omega), sum4, hn]; simp [hb]
theorem R4_last {ps : List (List UInt8)} {k acc n : Nat} (h : R4 ps k acc) (hk : k + 1 = ps.length) (hn : numO ps[k] = some n) (hb : n < pw k) : R4 ps (k + 1) (acc + n) := by
  have h1 := h.1 (by omega)
  refine ⟨fun h => by omega, fun _ => ⟨?_, by omega⟩⟩
  rw [h1.1, drop_one hk, sum4, hn]; simp [hb]
theorem R4_next {ps : List (List UInt8)} {k acc n : Nat} (h : R4 ps k acc) (hk : k + 1 < ps.length) (h4 : ps.length ≤ 4) (hn : numO ps[k] = some n) (hb : n < 256) : R4 ps (k + 1) (acc + n * pw (k + 1)) := by
  have h1 := h.1 (by omega)
  refine ⟨fun _ => ⟨?_, ?_⟩, fun e => by omega⟩
  · rw [h1.1, drop_two hk, sum4, hn]
    simp only [Option.bind_some, if_pos hb, Option.map_map]
    rw [List.drop_eq_getElem_cons (show k + 1 < ps.length from hk)]
    congr 1
    funext x
    simp [Nat.add_assoc]
  · have hk3 : k = 0 ∨ k = 1 ∨ k = 2 := by omega
    rcases hk3 with rfl | rfl | rfl <;> simp only [pw] at h1 ⊢ <;> omega
theorem numO_lt {l : List UInt8} {n : Nat} (h : numO l = some n) : n < 18446744073709551616 := by
  have hp : ∀ ks b l, partO ks b l = some n → n < 18446744073709551616 := by
    intro ks b l h
    unfold partO at h
    split at h
    · rw [← Option.some.inj h]; exact cap_le _
    · cases h
  unfold numO at h
  split at h
  · rw [← Option.some.inj h]; omega
  · split at h
    · exact hp _ _ _ h
    · split at h
      · exact hp _ _ _ h
      · exact hp _ _ _ h
/-- parts lie in block g -/
def Strs (w : World) (g : Nat) (l : List ByteArray) : Prop := g < w.heap.size ∧ ∀ (i : Nat) (h : i < l.length), w.cell? ⟨g, i, none⟩ = some (.string l[i])
theorem Strs.to {w w' : World} {g : Nat} {l : List ByteArray} (h : Strs w g l) (hb : Below w.heap.size w w') : Strs w' g l :=
  ⟨Nat.lt_of_lt_of_le h.1 hb.size, fun i hi => (hb.cell (p := ⟨g, i, none⟩) h.1).trans (h.2 i hi)⟩
theorem strs_new (w : World) (l : List ByteArray) (N : Nat) : Strs (w.alloc (.cells (Lib.cellsOf l N) 9)) w.heap.size l := by
  refine ⟨by simp, fun i hi => (Has.new w _).cell i ?_⟩
  simp only [Lib.cellsOf, List.getElem?_toArray]
  rw [List.getElem?_append_left (by simpa using hi)]
  simp [hi]
theorem ret_u {k : IntKind} {a b : Int} {v : Value} (h : a = b) : Ending.returned (.tuple #[.int k a, v]) = .returned (.tuple #[.int k b, v]) := by rw [h]
theorem partsAt_len (c : UInt8) : ∀ (l : List UInt8), ∀ p ∈ partsAt c l, p.length ≤ l.length
  | [], p, h => by simp [partsAt] at h; simp [h]
  | b :: r, p, h => by
    have ih := partsAt_len c r
    unfold partsAt at h
    split at h
    · rcases List.mem_cons.1 h with rfl | h
      · simp
      · have := ih p h; simp; omega
    · rcases List.mem_cons.1 h with rfl | h
      · have hne := partsAt_ne c r
        cases hq : partsAt c r with
        | nil => exact absurd hq hne
        | cons x y =>
          have := ih x (by rw [hq]; simp)
          simp; omega
      · have := ih p (List.mem_of_mem_tail h); simp; omega
theorem nd_size (s : ByteArray) (h : s.size ≤ 140737488355328) : (⟨(noDot s.data.toList).toArray⟩ : ByteArray).size ≤ 140737488355328 := by
  have h1 := noDot_len s.data.toList
  have e : (⟨(noDot s.data.toList).toArray⟩ : ByteArray).size = (noDot s.data.toList).length := by simp [ByteArray.size]
  have e2 : s.data.toList.length = s.size := by simp
  rw [e]; omega
end Go.Proofs.YtflddokngplgiaaDoor
namespace Go.Proofs.YtflddokngplgiaaDoor
open Go.RowKit
theorem ans_no {o : Option Nat} (h : o = none) : Ending.returned (.tuple #[.int .u32 0, .int .i64 17]) = ansE o := by rw [h]; rfl
theorem ans_yes {o : Option Nat} {n : Nat} {a : Int} (h : o = some n) (ha : a = (n : Int)) : Ending.returned (.tuple #[.int .u32 a, .int .i64 0]) = ansE o := by rw [h, ha]; rfl
set_option maxHeartbeats 8000000 in
set_option maxRecDepth 100000 in
theorem v4_many (s : ByteArray) (hs : s.size ≤ 140737488355328) (w : World) (hG : Glob w) (h5 : ¬ (partsAt 46 (noDot s.data.toList)).length ≤ 4) :
    Calls Tryd.prog 10 #[.string s] w fun e w' => e = ansE (v4O s.data.toList) ∧ Below w.heap.size w w' := by
  have HA := Lib.hid (show v4O s.data.toList = none from if_neg h5)
  have H5 := Lib.hid h5
  clear hG h5
  have HT := Lib.hid (trim_dot s.data.toList)
  have HZ := Lib.hid (nd_size s hs)
  go_enter Tryd.func10, Tryd.ntmps10
  go_wp2_with (go_at_call 24; refine (Tryd.strings_TrimSuffix s ⟨#[46]⟩ _ (by omega)).mono ?_; rintro e w' ⟨rfl, hw⟩; rw [hw, HT.out])
  refine (split5 _ HZ.out _).mono ?_
  rintro e w1 ⟨l, N, rfl, h1, h2, h3, h4, h6, h7⟩
  have HL := Lib.hid (show l.length = 5 from Decidable.byContradiction fun h => by
    have := h7 (by omega)
    have e := congrArg List.length this
    simp at e
    exact H5.out (by rw [← e]; omega))
  have HB := Lib.hid (show Below w.heap.size w w1 by rw [h1]; exact bnew _ _)
  clear h1 h2 h3 h4 h6 h7
  rw [HL.out]
  go_wp2_with fail
  go_ret2
  exact ⟨ans_no HA.out, HB.out⟩
end Go.Proofs.YtflddokngplgiaaDoor
