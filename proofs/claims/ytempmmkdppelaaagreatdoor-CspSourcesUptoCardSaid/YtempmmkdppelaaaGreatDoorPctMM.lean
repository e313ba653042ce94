import Derived.RowKit
import Derived.Test.YtempmmkdppelaaaGreatDoorPBM
import Derived.WalkSpells
import Derived.Deep.QuietTactic
import Derived.BigQuiet
/-
  Plain mathematics for package pct (no program is named here): the sets of bytes, percent-encoding, percent-decoding, and the case of ASCII letters, as functions on lists of bytes, with the facts about them that the walks and the laws use. No conditions.
-/
namespace Go.Proofs.YtempmmkdppelaaaGreatDoor.M

/-! ### Sets -/
def hasB (l : List Nat) (b : Nat) : Bool := l.contains b
def inB (s b : Nat) : Bool :=
  if s = 0 ∨ 9 ≤ s then false else
  if b < 32 ∨ 126 < b then true else
  match s with
  | 1 => false
  | 2 => hasB [32, 34, 60, 62, 96] b
  | 3 => hasB [32, 34, 35, 60, 62] b
  | 4 => hasB [32, 34, 35, 60, 62] b || b == 39
  | 5 => hasB [32, 34, 35, 60, 62] b || hasB [63, 94, 96, 123, 125] b
  | 6 => hasB [32, 34, 35, 60, 62] b || hasB [63, 94, 96, 123, 125] b || hasB [47, 58, 59, 61, 64, 91, 92, 93, 124] b
  | 7 => hasB [32, 34, 35, 60, 62] b || hasB [63, 94, 96, 123, 125] b || hasB [47, 58, 59, 61, 64, 91, 92, 93, 124] b || hasB [36, 37, 38, 43, 44] b
  | _ => hasB [32, 34, 35, 60, 62] b || hasB [63, 94, 96, 123, 125] b || hasB [47, 58, 59, 61, 64, 91, 92, 93, 124] b || hasB [36, 37, 38, 43, 44] b || hasB [33, 39, 40, 41, 126] b

abbrev Marks := Nat × Nat × Nat × Nat
def sb (m : Marks) (v : Nat) : Marks :=
  if v / 64 = 0 then (m.1 ||| 2 ^ (v % 64), m.2.1, m.2.2.1, m.2.2.2)
  else if v / 64 = 1 then (m.1, m.2.1 ||| 2 ^ (v % 64), m.2.2.1, m.2.2.2)
  else if v / 64 = 2 then (m.1, m.2.1, m.2.2.1 ||| 2 ^ (v % 64), m.2.2.2)
  else (m.1, m.2.1, m.2.2.1, m.2.2.2 ||| 2 ^ (v % 64))
def okM (m : Marks) : Prop := m.1 < 2 ^ 64 ∧ m.2.1 < 2 ^ 64 ∧ m.2.2.1 < 2 ^ 64 ∧ m.2.2.2 < 2 ^ 64
theorem or_lt (a v : Nat) (h : a < 2 ^ 64) : a ||| 2 ^ (v % 64) < 2 ^ 64 :=
  Nat.or_lt_two_pow h (Nat.pow_lt_pow_right (by omega) (Nat.mod_lt _ (by omega)))
theorem sb_ok (m : Marks) (v : Nat) (h : okM m) : okM (sb m v) := by
  obtain ⟨h0, h1, h2, h3⟩ := h
  unfold sb
  split
  · exact ⟨or_lt _ _ h0, h1, h2, h3⟩
  · split
    · exact ⟨h0, or_lt _ _ h1, h2, h3⟩
    · split
      · exact ⟨h0, h1, or_lt _ _ h2, h3⟩
      · exact ⟨h0, h1, h2, or_lt _ _ h3⟩
theorem fold_ok (l : List Nat) (m : Marks) (h : okM m) : okM (l.foldl sb m) := by
  induction l generalizing m with
  | nil => exact h
  | cons v l ih => exact ih _ (sb_ok m v h)
def mk (s : Nat) : Marks :=
  match s with
  | 1 => (4294967295, 9223372036854775808, 18446744073709551615, 18446744073709551615)
  | 2 => [32, 34, 60, 62, 96].foldl sb (mk 1)
  | 3 => [32, 34, 35, 60, 62].foldl sb (mk 1)
  | 4 => [39].foldl sb (mk 3)
  | 5 => [63, 94, 96, 123, 125].foldl sb (mk 3)
  | 6 => [47, 58, 59, 61, 64, 91, 92, 93, 124].foldl sb (mk 5)
  | 7 => [36, 37, 38, 43, 44].foldl sb (mk 6)
  | 8 => [33, 39, 40, 41, 126].foldl sb (mk 7)
  | _ => (0, 0, 0, 0)
def bitAt (m : Marks) (b : Nat) : Bool :=
  ([m.1, m.2.1, m.2.2.1, m.2.2.2].getD (b / 64) 0) / 2 ^ (b % 64) % 2 == 1
theorem bit_in_small : ∀ s, s < 9 → ∀ b, b < 256 → bitAt (mk s) b = inB s b := by decide +kernel
theorem mk_big (s : Nat) (h : 9 ≤ s) : mk s = (0, 0, 0, 0) := by
  unfold mk; split <;> first | omega | rfl
theorem bit_in (s b : Nat) (hb : b < 256) : bitAt (mk s) b = inB s b := by
  by_cases h : s < 9
  · exact bit_in_small s h b hb
  · rw [mk_big s (by omega)]
    have : inB s b = false := by unfold inB; rw [if_pos (Or.inr (by omega))]
    rw [this]
    unfold bitAt
    have h4 : b / 64 = 0 ∨ b / 64 = 1 ∨ b / 64 = 2 ∨ b / 64 = 3 := by omega
    rcases h4 with h | h | h | h <;> rw [h] <;> simp
theorem mk_ok (s : Nat) : okM (mk s) := by
  by_cases h : s < 9
  · have : ∀ s, s < 9 → (mk s).1 < 2 ^ 64 ∧ (mk s).2.1 < 2 ^ 64 ∧ (mk s).2.2.1 < 2 ^ 64 ∧ (mk s).2.2.2 < 2 ^ 64 := by decide +kernel
    exact this s h
  · rw [mk_big s (by omega)]; exact ⟨by decide, by decide, by decide, by decide⟩

/-! ### Encoding -/
def hexU (n : Nat) : UInt8 := if n < 10 then UInt8.ofNat (48 + n) else UInt8.ofNat (55 + n)
def enc1 (s : Nat) (b : UInt8) : List UInt8 := if inB s b.toNat then [37, hexU (b.toNat / 16), hexU (b.toNat % 16)] else [b]
def enc (s : Nat) (l : List UInt8) : List UInt8 := l.flatMap (enc1 s)

/-! ### Decoding -/
def hexv (n : Nat) : Nat := if 48 ≤ n ∧ n ≤ 57 then n - 48 else if 97 ≤ n ∧ n ≤ 102 then n - 87 else if 65 ≤ n ∧ n ≤ 70 then n - 55 else 16
def dec : List UInt8 → List UInt8
  | [] => []
  | c :: rest => match rest with
    | [] => [c]
    | [d] => c :: dec [d]
    | h :: l :: r => if c = 37 ∧ hexv h.toNat < 16 ∧ hexv l.toNat < 16 then UInt8.ofNat (hexv h.toNat * 16 + hexv l.toNat) :: dec r else c :: dec (h :: l :: r)

def escL : List UInt8 → Option UInt8
  | c :: h :: l :: _ => if c = 37 ∧ hexv h.toNat < 16 ∧ hexv l.toNat < 16 then some (UInt8.ofNat (hexv h.toNat * 16 + hexv l.toNat)) else none
  | _ => none
theorem dec_some {l : List UInt8} {v : UInt8} (h : escL l = some v) : 3 ≤ l.length ∧ dec l = v :: dec (l.drop 3) := by
  match l, h with
  | c :: h1 :: l1 :: r, h =>
    simp only [escL] at h
    by_cases hc : c = 37 ∧ hexv h1.toNat < 16 ∧ hexv l1.toNat < 16
    · rw [if_pos hc] at h
      cases h
      refine ⟨by simp, ?_⟩
      rw [dec, if_pos hc]; rfl
    · rw [if_neg hc] at h; cases h
theorem dec_none {c : UInt8} {r : List UInt8} (h : escL (c :: r) = none) : dec (c :: r) = c :: dec r := by
  match r, h with
  | [], _ => rfl
  | [d], _ => rfl
  | h1 :: l1 :: r, h =>
    simp only [escL] at h
    by_cases hc : c = 37 ∧ hexv h1.toNat < 16 ∧ hexv l1.toNat < 16
    · rw [if_pos hc] at h; cases h
    · rw [dec, if_neg hc]
theorem dec_nil : dec [] = [] := rfl
theorem hexv_le (n : Nat) : hexv n ≤ 16 := by unfold hexv; split <;> (try split) <;> (try split) <;> omega

/-! ### Case -/
def low (b : UInt8) : UInt8 := if 65 ≤ b.toNat ∧ b.toNat ≤ 90 then UInt8.ofNat (b.toNat + 32) else b
def upp (b : UInt8) : UInt8 := if 97 ≤ b.toNat ∧ b.toNat ≤ 122 then UInt8.ofNat (b.toNat - 32) else b
end Go.Proofs.YtempmmkdppelaaaGreatDoor.M
/-
  The contracts of package pct for the case of ASCII letters: Lower, Upper and Same answer what the plain functions of the mathematics text answer, for every text of a length that fits an int; nothing that was there is changed.
-/
namespace Go.Proofs.YtempmmkdppelaaaGreatDoor
open Go.RowKit M
theorem low_nat (b : UInt8) : (low b).toNat = if 65 ≤ b.toNat ∧ b.toNat ≤ 90 then b.toNat + 32 else b.toNat := by
  unfold low
  split
  · have := b.toNat_lt; rw [UInt8.toNat_ofNat']; omega
  · rfl
theorem upp_nat (b : UInt8) : (upp b).toNat = if 97 ≤ b.toNat ∧ b.toNat ≤ 122 then b.toNat - 32 else b.toNat := by
  unfold upp
  split
  · have := b.toNat_lt; rw [UInt8.toNat_ofNat']; omega
  · rfl
set_option maxHeartbeats 400000 in
theorem small_any (b : UInt8) (w : World) : Calls Tryz.prog 56 #[.int .u8 b.toNat] w fun e w' => e = .returned (.int .u8 (low b).toNat) ∧ w = w' := by
  have HL := Lib.hid (low_nat b)
  have h1 := b.toNat_lt
  by_cases ha : 65 ≤ b.toNat
  · by_cases hb : b.toNat ≤ 90
    · go_enter Tryz.func56, Tryz.ntmps56
      go_wp2
      go_ret
      exact ⟨ret_int (by rw [HL.out, if_pos ⟨ha, hb⟩]; rfl), rfl⟩
    · go_enter Tryz.func56, Tryz.ntmps56
      go_wp2
      go_ret
      exact ⟨ret_int (by rw [HL.out, if_neg (by omega)]), rfl⟩
  · go_enter Tryz.func56, Tryz.ntmps56
    go_wp2
    go_ret
    exact ⟨ret_int (by rw [HL.out, if_neg (by omega)]), rfl⟩
/-- block b is a row of n bytes' cells whose first ones are l (only the place behind the row bears the run-time's mark) -/
def RowIs (w : World) (b n : Nat) (l : List UInt8) : Prop :=
  ∃ C : Array Value, w.heap[b]? = some (.cells C 5 (C.size, C.size + 1)) ∧ C.size = n ∧ ∀ j (h : j < l.length), C[j]? = some (.int .u8 ((l[j]'h).toNat : Int))
theorem RowIs.le {w : World} {b n : Nat} {l : List UInt8} (h : RowIs w b n l) : l.length ≤ n := by
  obtain ⟨C, _, hs, hc⟩ := h
  rcases Nat.lt_or_ge n l.length with hlt | hge
  · have := hc n hlt
    rw [Array.getElem?_eq_none (by omega)] at this
    cases this
  · exact hge
theorem RowIs.cell {w : World} {b n : Nat} {l : List UInt8} (h : RowIs w b n l) (j : Nat) (hj : j < l.length) : w.cell? ⟨b, j, none⟩ = some (.int .u8 ((l[j]'hj).toNat : Int)) := by
  obtain ⟨C, hb, _, hc⟩ := h
  rw [cell_of_row _ _ j _ _ _ hb]; exact hc j hj
theorem RowIs.free {w : World} {b n : Nat} {l : List UInt8} (h : RowIs w b n l) (j : Nat) (hj : j < l.length) : w.frozen? ⟨b, j, none⟩ = false := by
  have hle := h.le
  obtain ⟨C, hb, hs, hc⟩ := h
  simp [World.frozen?, hb]; omega
theorem RowIs.lt {w : World} {b n : Nat} {l : List UInt8} (h : RowIs w b n l) : b < w.heap.size := by
  obtain ⟨C, hb, _, _⟩ := h
  exact lt_of_block hb
theorem RowIs.set_ {w : World} {b n : Nat} {l : List UInt8} (h : RowIs w b n l) (k : Nat) (hk : k < l.length) (u : UInt8) : RowIs (w.setCell ⟨b, k, none⟩ (.int .u8 (u.toNat : Int))) b n (l.set k u) := by
  have hle := h.le
  obtain ⟨C, hb, hs, hc⟩ := h
  refine ⟨C.setIfInBounds k (.int .u8 (u.toNat : Int)), ?_, by simpa using hs, fun j hj => ?_⟩
  · simp [World.setCell, Array.getElem?_modify, hb]
  · rw [Array.getElem?_setIfInBounds]
    simp only [List.length_set] at hj
    by_cases e : k = j
    · subst e
      rw [if_pos rfl, if_pos (by omega)]; simp
    · rw [if_neg e, hc j hj, List.getElem_set_ne e]
theorem RowIs.new (w : World) (s : ByteArray) (cap : Nat) : RowIs (w.drew.alloc (.cells (bytesRow s cap) 5 ((bytesRow s cap).size, (bytesRow s cap).size + 1))) w.heap.size (s.size + (cap - s.size)) s.data.toList := by
  refine ⟨bytesRow s cap, heap_alloc_new w.drew _, by simp [bytesRow], fun j hj => ?_⟩
  have hj' : j < s.data.size := by simpa using hj
  unfold bytesRow
  rw [Array.getElem?_append_left (by simpa using hj')]
  rw [Array.getElem?_map, Array.getElem?_eq_getElem hj']
  simp
theorem set_step {f : UInt8 → UInt8} (l : List UInt8) (k : Nat) (h : k < l.length) : ((l.take k).map f ++ l.drop k).set k (f l[k]) = (l.take (k + 1)).map f ++ l.drop (k + 1) := by
  rw [List.set_append_right _ _ (by simp; omega)]
  rw [take_snoc l k h]
  have : (k - (List.map f (List.take k l)).length) = 0 := by simp; omega
  rw [this, List.drop_eq_getElem_cons h, List.set_cons_zero, List.map_append, List.append_assoc]
  rfl
theorem mix_get {f : UInt8 → UInt8} (l : List UInt8) (k : Nat) (h : k < l.length) : ∃ h' : k < ((l.take k).map f ++ l.drop k).length, ((l.take k).map f ++ l.drop k)[k] = l[k] := by
  refine ⟨by simp; omega, ?_⟩
  rw [List.getElem_append_right (by simp; omega)]
  simp [Nat.min_eq_left (Nat.le_of_lt h)]
theorem back_row {P : Program} {w : World} {b n : Nat} {l : List UInt8} (h : RowIs w b n l) (cap m : Nat) (hm : m = l.length) (hs : P.underlying 73 = some (.slice 5)) (he : P.underlying 5 = some (.int .u8)) (hd : P.underlying 9 = some .string) :
    (convert 73 9 (.slice (some ⟨b, 0, none⟩) m cap)).run P w = .ok (.string ⟨l.toArray⟩) w := by
  subst hm
  exact run_convert_bytes_back w 73 9 5 ⟨b, 0, none⟩ cap l hs he hd (fun j hj => by
    have e : (⟨b, 0, none⟩ : Addr).add j = ⟨b, j, none⟩ := by unfold Addr.add; split <;> simp_all
    rw [e]; exact h.cell j hj)
set_option maxHeartbeats 1000000 in
theorem lower_any (s : ByteArray) (hs : s.size ≤ maxLen) (w : World) :
    Calls Tryz.prog 35 #[.string s] w fun e w' => e = .returned (.string ⟨(s.data.toList.map low).toArray⟩) ∧ Below w.heap.size w w' := by
  unfold maxLen at hs
  have kc := fun (w : World) => run_bytes_of_string (P := Tryz.prog) w 9 73 5 s Tryz.underlying9 Tryz.underlying73 Tryz.underlying5
  have HB := Lib.hid (fun cap => RowIs.new w s cap)
  go_enter Tryz.func35, Tryz.ntmps35
  go_wp2
  go_loopw [4, 9] (fun x i wr => ∃ k : Nat, k ≤ s.size ∧ i = .int .i64 k ∧ RowIs wr w.heap.size (s.size + (grownCap w s.size 0 5 - s.size)) ((s.data.toList.take k).map low ++ s.data.toList.drop k) ∧ Below w.heap.size w wr) (fun x i _ => s.size - (intOf i).toNat)
  case atStart =>
    exact ⟨0, by omega, rfl, HB.out (grownCap w s.size 0 5), (((Below.refl _ _).alloc (Nat.le_refl _) _).drew)⟩
  case round =>
    obtain ⟨k, hk, rfl, hrow, hbel⟩ := hrel
    by_cases hlt : k < s.size
    · have hkl : k < s.data.toList.length := by simpa using hlt
      obtain ⟨hm, hmg⟩ := mix_get (f := low) s.data.toList k hkl
      have hc := hrow.cell k hm
      have hf := hrow.free k hm
      rw [hmg] at hc
      have HS := Lib.hid (set_step (f := low) s.data.toList k hkl)
      have HR := Lib.hid (hrow.set_ k hm (low s.data.toList[k]))
      generalize s.data.toList[k] = u at *
      clear hmg hrow
      go_wp2_with (go_at_call 56; refine (small_any u _).mono ?_; rintro e w1 ⟨rfl, rfl⟩)
      go_roundw
      case rel => exact ⟨k + 1, by omega, by go_num, by rw [← HS.out]; exact HR.out, hbel.setCell (p := ⟨w.heap.size, k, none⟩) (Nat.le_refl _) _⟩
      case measure => simp [intOf]; omega
    · obtain rfl : k = s.size := by omega
      have e1 : (s.data.toList.take s.size).map low ++ s.data.toList.drop s.size = s.data.toList.map low := by
        rw [List.take_of_length_le (by simp), List.drop_of_length_le (by simp), List.append_nil]
      rw [e1] at hrow
      have kb := back_row (P := Tryz.prog) hrow (grownCap w s.size 0 5) s.size (by simp) Tryz.underlying73 Tryz.underlying5 Tryz.underlying9
      clear e1 hrow
      go_wp2
      go_ret
      exact ⟨rfl, hbel⟩
theorem upp_yes (u : UInt8) (h1 : 97 ≤ u.toNat) (h2 : u.toNat ≤ 122) : ((upp u).toNat : Int) = (u.toNat : Int) - 32 := by rw [upp_nat, if_pos ⟨h1, h2⟩]; omega
theorem upp_no (u : UInt8) (h : ¬ (97 ≤ u.toNat ∧ u.toNat ≤ 122)) : upp u = u := by unfold upp; rw [if_neg h]
set_option maxHeartbeats 1000000 in
theorem upper_any (s : ByteArray) (hs : s.size ≤ maxLen) (w : World) :
    Calls Tryz.prog 30 #[.string s] w fun e w' => e = .returned (.string ⟨(s.data.toList.map upp).toArray⟩) ∧ Below w.heap.size w w' := by
  unfold maxLen at hs
  have kc := fun (w : World) => run_bytes_of_string (P := Tryz.prog) w 9 73 5 s Tryz.underlying9 Tryz.underlying73 Tryz.underlying5
  have HB := Lib.hid (fun cap => RowIs.new w s cap)
  go_enter Tryz.func30, Tryz.ntmps30
  go_wp2
  go_loopw [4, 9] (fun x i wr => ∃ k : Nat, k ≤ s.size ∧ i = .int .i64 k ∧ RowIs wr w.heap.size (s.size + (grownCap w s.size 0 5 - s.size)) ((s.data.toList.take k).map upp ++ s.data.toList.drop k) ∧ Below w.heap.size w wr) (fun x i _ => s.size - (intOf i).toNat)
  case atStart =>
    exact ⟨0, by omega, rfl, HB.out (grownCap w s.size 0 5), (((Below.refl _ _).alloc (Nat.le_refl _) _).drew)⟩
  case round =>
    obtain ⟨k, hk, rfl, hrow, hbel⟩ := hrel
    by_cases hlt : k < s.size
    · have hkl : k < s.data.toList.length := by simpa using hlt
      obtain ⟨hm, hmg⟩ := mix_get (f := upp) s.data.toList k hkl
      have hc := hrow.cell k hm
      have hf := hrow.free k hm
      rw [hmg] at hc
      have HS := Lib.hid (set_step (f := upp) s.data.toList k hkl)
      have HR := Lib.hid (hrow.set_ k hm (upp s.data.toList[k]))
      have HG := Lib.hid (show ∀ L : List UInt8, ∀ h : k < L.length, L[k] = s.data.toList[k] → L.set k (s.data.toList[k]) = L from fun L h e => by rw [← e]; exact List.set_getElem_self h)
      have HH := Lib.hid hmg
      have HW := Lib.hid hrow
      generalize s.data.toList[k] = u at *
      clear hmg hrow
      have hu := u.toNat_lt
      by_cases h1 : 97 ≤ u.toNat
      · by_cases h2 : u.toNat ≤ 122
        · have HU := Lib.hid (upp_yes u h1 h2)
          go_wp2
          go_roundw
          case rel => exact ⟨k + 1, by omega, by go_num, by rw [← HS.out, ← HU.out]; exact HR.out, hbel.setCell (p := ⟨w.heap.size, k, none⟩) (Nat.le_refl _) _⟩
          case measure => simp [intOf]; omega
        · have HU := Lib.hid (upp_no u (by omega))
          go_wp2
          go_roundw
          case rel => exact ⟨k + 1, by omega, by go_num, by rw [← HS.out, HU.out, HG.out _ hm HH.out]; exact HW.out, hbel⟩
          case measure => simp [intOf]; omega
      · have HU := Lib.hid (upp_no u (by omega))
        go_wp2
        go_roundw
        case rel => exact ⟨k + 1, by omega, by go_num, by rw [← HS.out, HU.out, HG.out _ hm HH.out]; exact HW.out, hbel⟩
        case measure => simp [intOf]; omega
    · obtain rfl : k = s.size := by omega
      have e1 : (s.data.toList.take s.size).map upp ++ s.data.toList.drop s.size = s.data.toList.map upp := by
        rw [List.take_of_length_le (by simp), List.drop_of_length_le (by simp), List.append_nil]
      rw [e1] at hrow
      have kb := back_row (P := Tryz.prog) hrow (grownCap w s.size 0 5) s.size (by simp) Tryz.underlying73 Tryz.underlying5 Tryz.underlying9
      clear e1 hrow
      go_wp2
      go_ret
      exact ⟨rfl, hbel⟩
theorem low_ne_nat {u v : UInt8} (h : low u = low v) : (((low u).toNat : Int) != ((low v).toNat : Int)) = false := by rw [h]; simp
theorem low_ne_nat' {u v : UInt8} (h : ¬ low u = low v) : (((low u).toNat : Int) != ((low v).toNat : Int)) = true := by
  rw [bne_iff_ne]; intro e; exact h (UInt8.toNat_inj.1 (by omega))
theorem small_q (b : UInt8) (w : World) : Calls Tryz.prog 56 #[.int .u8 b.toNat] w fun e w' => e = .returned (.int .u8 (low b).toNat) ∧ w' = w := (small_any b w).mono fun _ _ ⟨h, e⟩ => ⟨h, e.symm⟩
def sameB (a b : List UInt8) : Bool := a.map low == b.map low
theorem same_step {s t : ByteArray} (k : Nat) (h1 : k < s.size) (h2 : k < t.size) (hk : (s.data.toList.take k).map low = (t.data.toList.take k).map low) (he : low s[k] = low t[k]) :
    (s.data.toList.take (k + 1)).map low = (t.data.toList.take (k + 1)).map low := by
  rw [take_snoc _ _ (by simpa using h1), take_snoc _ _ (by simpa using h2), List.map_append, List.map_append, hk]
  have : low s.data.toList[k] = low t.data.toList[k] := he
  simp only [List.map_cons, List.map_nil, this]
theorem same_stop {s t : ByteArray} (k : Nat) (h1 : k < s.size) (h2 : k < t.size) (he : ¬ low s[k] = low t[k]) : sameB s.data.toList t.data.toList = false := by
  unfold sameB
  rw [beq_eq_false_iff_ne]
  intro h
  have h3 := congrArg (fun l => l[k]?) h
  simp only [List.getElem?_map] at h3
  rw [List.getElem?_eq_getElem (by simpa using h1), List.getElem?_eq_getElem (by simpa using h2)] at h3
  simp only [Option.map_some, Option.some.injEq] at h3
  exact he h3
theorem same_size {s t : ByteArray} (h : ¬ s.size = t.size) : sameB s.data.toList t.data.toList = false := by
  unfold sameB
  rw [beq_eq_false_iff_ne]
  intro h3
  have := congrArg List.length h3
  simp at this
  exact h this
set_option maxHeartbeats 1000000 in
theorem same_any (s t : ByteArray) (hs : s.size ≤ maxLen) (_ht : t.size ≤ maxLen) (w : World) :
    Calls Tryz.prog 100 #[.string s, .string t] w fun e w' => e = .returned (.bool (sameB s.data.toList t.data.toList)) ∧ Below w.heap.size w w' := by
  unfold maxLen at hs _ht
  by_cases hst : s.size = t.size
  · have hle : s.size ≤ t.size := by omega
    have hge : t.size ≤ s.size := by omega
    have hne : ((s.size : Int) != (t.size : Int)) = false := by rw [hst]; simp
    have HST := Lib.hid hst
    clear hst
    go_enter Tryz.func100, Tryz.ntmps100
    go_wp2
    go_loopw [5, 13] (fun x i wr => ∃ k : Nat, k ≤ s.size ∧ i = .int .i64 k ∧ Hid ((s.data.toList.take k).map low = (t.data.toList.take k).map low) ∧ Below w.heap.size w wr) (fun x i _ => s.size - (intOf i).toNat)
    case atStart => exact ⟨0, by omega, rfl, Lib.hid rfl, Below.refl _ _⟩
    case round =>
      obtain ⟨k, hk, rfl, HK, hbel⟩ := hrel
      by_cases hlt : k < s.size
      · have hlt2 : k < t.size := by omega
        by_cases hl : low s[k] = low t[k]
        · have h0 := low_ne_nat hl
          have HS := Lib.hid (same_step k hlt hlt2 HK.out hl)
          clear hl
          go_wp2
          go_quiet ((go_at_call 56; exact Calls.quiet_of_same (small_q _ _)))
          go_wp2
          go_roundw
          case rel => exact ⟨k + 1, by omega, by go_num, HS, below_dn hbel _⟩
          case measure => simp [intOf]; omega
        · have h0 := low_ne_nat' hl
          have HS := Lib.hid (same_stop k hlt hlt2 hl)
          clear hl
          go_wp2
          go_quiet ((go_at_call 56; exact Calls.quiet_of_same (small_q _ _)))
          go_wp2
          go_ret
          exact ⟨ret_bool HS.out.symm, below_dn hbel _⟩
      · have HS := Lib.hid (show sameB s.data.toList t.data.toList = true by
          have h := HK.out
          rw [List.take_of_length_le (by simp; omega), List.take_of_length_le (by simp; omega)] at h
          unfold sameB; rw [h]; simp)
        go_wp2
        go_ret
        exact ⟨ret_bool HS.out.symm, hbel⟩
  · have hne : ((s.size : Int) != (t.size : Int)) = true := by rw [bne_iff_ne]; omega
    have HS := Lib.hid (same_size hst)
    clear hst
    go_enter Tryz.func100, Tryz.ntmps100
    go_wp2
    go_ret
    exact ⟨ret_bool HS.out.symm, Below.refl _ _⟩
end Go.Proofs.YtempmmkdppelaaaGreatDoor
