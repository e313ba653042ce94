import Derived.Test.YtamhmpgaapgmbaaDoorA5
import Derived.Test.YtamhmpgaapgmbaaDoorA6
namespace Go.Proofs.YtamhmpgaapgmbaaDoor
open Go.RowKit
def pw : Nat → Nat
  | 0 => 4294967296
  | 1 => 16777216
  | 2 => 65536
  | 3 => 256
  | _ => 1
/-- the parts from place k on, as a number -/
def sum4 : Nat → List (List UInt8) → Option Nat
  | _, [] => none
  | k, [p] => (numO p).bind fun n => if n < pw k then some n else none
  | k, p :: q :: r => (numO p).bind fun n => if n < 256 then (sum4 (k + 1) (q :: r)).map (n * pw (k + 1) + ·) else none
def v4P (ps : List (List UInt8)) : Option Nat := if ps.length ≤ 4 then sum4 0 ps else none
def v4O (l : List UInt8) : Option Nat := v4P (partsAt 46 (noDot l))
/-- what V4 answers -/
def ansE (o : Option Nat) : Ending := match o with
  | none => .returned (.tuple #[.int .u32 0, .int .i64 17])
  | some n => .returned (.tuple #[.int .u32 n, .int .i64 0])
theorem map_id_add (o : Option Nat) : o.map (0 + ·) = o := by cases o <;> simp
def R4 (ps : List (List UInt8)) (k acc : Nat) : Prop :=
  (k < ps.length → sum4 0 ps = (sum4 k (ps.drop k)).map (acc + ·) ∧ acc + pw k ≤ 4294967296) ∧ (k = ps.length → sum4 0 ps = some acc ∧ acc < 4294967296)
theorem R4_start (ps : List (List UInt8)) (h : 0 < ps.length) : R4 ps 0 0 :=
  ⟨fun _ => ⟨by rw [List.drop_zero, map_id_add], by decide⟩, fun e => by omega⟩
theorem drop_one {ps : List (List UInt8)} {k : Nat} (h : k + 1 = ps.length) : ps.drop k = [ps[k]] := by
  rw [List.drop_eq_getElem_cons (by omega), List.drop_of_length_le (by omega)]
theorem drop_two {ps : List (List UInt8)} {k : Nat} (h : k + 1 < ps.length) : ps.drop k = ps[k] :: ps[k + 1] :: ps.drop (k + 2) := by
  rw [List.drop_eq_getElem_cons (by omega), List.drop_eq_getElem_cons h]
theorem R4_none {ps : List (List UInt8)} {k acc : Nat} (h : R4 ps k acc) (hk : k < ps.length) (hn : numO ps[k] = none) : sum4 0 ps = none := by
  rw [(h.1 hk).1]
  by_cases e : k + 1 = ps.length
  · rw [drop_one e, sum4, hn]; rfl
  · rw [drop_two (by omega), sum4, hn]; rfl
theorem R4_big {ps : List (List UInt8)} {k acc n : Nat} (h : R4 ps k acc) (hk : k < ps.length) (hn : numO ps[k] = some n) (hb : ¬ n < if k + 1 = ps.length then pw k else 256) : sum4 0 ps = none := by
  rw [(h.1 hk).1]
  by_cases e : k + 1 = ps.length
  · rw [if_pos e] at hb
    rw [drop_one e, sum4, hn]; simp [hb]
  · rw [if_neg e] at hb
    rw [drop_two (by omega), sum4, hn]; simp [hb]
theorem R4_last {ps : List (List UInt8)} {k acc n : Nat} (h : R4 ps k acc) (hk : k + 1 = ps.length) (hn : numO ps[k] = some n) (hb : n < pw k) : R4 ps (k + 1) (acc + n) := by
  have h1 := h.1 (by omega)
  refine ⟨fun h => by omega, fun _ => ⟨?_, by omega⟩⟩
  rw [h1.1, drop_one hk, sum4, hn]; simp [hb]
theorem R4_next {ps : List (List UInt8)} {k acc n : Nat} (h : R4 ps k acc) (hk : k + 1 < ps.length) (h4 : ps.length ≤ 4) (hn : numO ps[k] = some n) (hb : n < 256) : R4 ps (k + 1) (acc + n * pw (k + 1)) := by
  have h1 := h.1 (by omega)
  refine ⟨fun _ => ⟨?_, ?_⟩, fun e => by omega⟩
  · rw [h1.1, drop_two hk, sum4, hn]
    simp only [Option.bind_some, if_pos hb, Option.map_map]
    rw [List.drop_eq_getElem_cons (show k + 1 < ps.length from hk)]
    congr 1
    funext x
    simp [Nat.add_assoc]
  · have hk3 : k = 0 ∨ k = 1 ∨ k = 2 := by omega
    rcases hk3 with rfl | rfl | rfl <;> simp only [pw] at h1 ⊢ <;> omega
theorem numO_lt {l : List UInt8} {n : Nat} (h : numO l = some n) : n < 18446744073709551616 := by
  have hp : ∀ ks b l, partO ks b l = some n → n < 18446744073709551616 := by
    intro ks b l h
    unfold partO at h
    split at h
    · rw [← Option.some.inj h]; exact cap_le _
    · cases h
  unfold numO at h
  split at h
  · rw [← Option.some.inj h]; omega
  · split at h
    · exact hp _ _ _ h
    · split at h
      · exact hp _ _ _ h
      · exact hp _ _ _ h
/-- parts lie in block g -/
def Strs (w : World) (g : Nat) (l : List ByteArray) : Prop := g < w.heap.size ∧ ∀ (i : Nat) (h : i < l.length), w.cell? ⟨g, i, none⟩ = some (.string l[i])
theorem Strs.to {w w' : World} {g : Nat} {l : List ByteArray} (h : Strs w g l) (hb : Below w.heap.size w w') : Strs w' g l :=
  ⟨Nat.lt_of_lt_of_le h.1 hb.size, fun i hi => (hb.cell (p := ⟨g, i, none⟩) h.1).trans (h.2 i hi)⟩
theorem strs_new (w : World) (l : List ByteArray) (N : Nat) : Strs (w.alloc (.cells (Lib.cellsOf l N) 9)) w.heap.size l := by
  refine ⟨by simp, fun i hi => (Has.new w _).cell i ?_⟩
  simp only [Lib.cellsOf, List.getElem?_toArray]
  rw [List.getElem?_append_left (by simpa using hi)]
  simp [hi]
theorem ret_u {k : IntKind} {a b : Int} {v : Value} (h : a = b) : Ending.returned (.tuple #[.int k a, v]) = .returned (.tuple #[.int k b, v]) := by rw [h]
theorem partsAt_len (c : UInt8) : ∀ (l : List UInt8), ∀ p ∈ partsAt c l, p.length ≤ l.length
  | [], p, h => by simp [partsAt] at h; simp [h]
  | b :: r, p, h => by
    have ih := partsAt_len c r
    unfold partsAt at h
    split at h
    · rcases List.mem_cons.1 h with rfl | h
      · simp
      · have := ih p h; simp; omega
    · rcases List.mem_cons.1 h with rfl | h
      · have hne := partsAt_ne c r
        cases hq : partsAt c r with
        | nil => exact absurd hq hne
        | cons x y =>
          have := ih x (by rw [hq]; simp)
          simp; omega
      · have := ih p (List.mem_of_mem_tail h); simp; omega
theorem nd_size (s : ByteArray) (h : s.size ≤ 140737488355328) : (⟨(noDot s.data.toList).toArray⟩ : ByteArray).size ≤ 140737488355328 := by
  have h1 := noDot_len s.data.toList
  have e : (⟨(noDot s.data.toList).toArray⟩ : ByteArray).size = (noDot s.data.toList).length := by simp [ByteArray.size]
  have e2 : s.data.toList.length = s.size := by simp
  rw [e]; omega
end Go.Proofs.YtamhmpgaapgmbaaDoor
