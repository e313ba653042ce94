import Derived.Test.YtempmmkdppelaaaGreatDoorIXM
import Derived.Lib.QuoteLoop
import Derived.Lib.SpaceUEq
import Derived.Lib.IndexAny
import Derived.Lib.MapLaws
import Derived.RowKit
/-
  strings.ContainsRune, IndexAny, ContainsAny at a set of ASCII letters, for every rune and every text.
-/
namespace Go.Proofs.YtempmmkdppelaaaGreatDoor
open Go.RowKit
/-- what a byte past ASCII is read as: a rune past ASCII, of bytes past ASCII -/
theorem dec_high (s : ByteArray) (i : Nat) (hi : i < s.size) (h : 128 ≤ s[i].toNat) : 128 ≤ (Utf8.decode s i).1 ∧ (Utf8.decode s i).1 ≤ 1114111 ∧ 1 ≤ (Utf8.decode s i).2 ∧ i + (Utf8.decode s i).2 ≤ s.size ∧ ∀ j, i ≤ j → j < i + (Utf8.decode s i).2 → ∀ b, s.data.toList[j]? = some b → 128 ≤ b.toNat := by
  have hg : ∀ k, k < s.size → s.get! k = s.data.toList.getD k 0 := fun k hk => by
    rw [show s.get! k = s.data[k]! from rfl]
    rw [getElem!_pos s.data k hk, List.getD_eq_getElem?_getD, List.getElem?_eq_getElem (by simpa using hk)]; rfl
  have h0 : (s.get! i).toNat = s[i].toNat := by
    rw [show s.get! i = s.data[i]! from rfl, getElem!_pos s.data i hi]; rfl
  have hlt := UInt8.toNat_lt (s.get! i)
  rw [Lib.decode_at]
  have c1 := Lib.decodeN_conts (s.size - i) (s.get! i).toNat (s.get! (i + 1)).toNat (s.get! (i + 2)).toNat (s.get! (i + 3)).toNat
  have c2 := Lib.decodeN_width_le (s.size - i) (s.get! i).toNat (s.get! (i + 1)).toNat (s.get! (i + 2)).toNat (s.get! (i + 3)).toNat (by omega)
  have c3 := Lib.decodeN_valid (s.size - i) (s.get! i).toNat (s.get! (i + 1)).toNat (s.get! (i + 2)).toNat (s.get! (i + 3)).toNat hlt
  have c4 := Lib.decodeN_ge1 (s.size - i) (s.get! i).toNat (s.get! (i + 1)).toNat (s.get! (i + 2)).toNat (s.get! (i + 3)).toNat
  have c5 : 128 ≤ (Lib.decodeN (s.size - i) (s.get! i).toNat (s.get! (i + 1)).toNat (s.get! (i + 2)).toNat (s.get! (i + 3)).toNat).1 := by
    rcases Lib.decodeN_shape (s.size - i) (s.get! i).toNat (s.get! (i + 1)).toNat (s.get! (i + 2)).toNat (s.get! (i + 3)).toNat with ⟨a, _⟩ | ⟨_, _, _, a, e⟩ | ⟨_, _, _, _, a, _, e⟩ | ⟨_, _, _, _, _, a, _, e⟩ | e
    · omega
    all_goals (rw [e]; simp only; omega)
  generalize Lib.decodeN (s.size - i) (s.get! i).toNat (s.get! (i + 1)).toNat (s.get! (i + 2)).toNat (s.get! (i + 3)).toNat = d at *
  refine ⟨c5, by omega, c4, by omega, fun j hj hj2 b hb => ?_⟩
  have hjs : j < s.size := by have := (List.getElem?_eq_some_iff.1 hb).1; simpa using this
  have hbj : s.get! j = b := by rw [hg j hjs, List.getD_eq_getElem?_getD, hb]; rfl
  obtain ⟨d1, d2, d3, d4⟩ := c1
  rcases (show j = i ∨ j = i + 1 ∨ j = i + 2 ∨ j = i + 3 by omega) with rfl | rfl | rfl | rfl
  · rw [hbj] at h0; omega
  · have := (d1 (by omega)).1; rw [hbj] at this; omega
  · have := (d2 (by omega)).1; rw [hbj] at this; omega
  · have := (d3 (by omega)).1; rw [hbj] at this; omega
set_option maxHeartbeats 2000000 in
set_option maxRecDepth 100000 in
theorem indexRune_err (s : ByteArray) (hs : Asc s.data.toList) (w : World) :
    Calls Tryz.prog 55 #[.string s, .int .i32 65533] w fun e w' => e = .returned (.int .i64 (-1)) ∧ Below w.heap.size w w' := by
  have HA := Lib.hid hs
  clear hs
  have iter_below : ∀ p, Below w.heap.size w (w.iter s p) := fun p => (Below.refl _ w).alloc (Nat.le_refl _) _
  have HI := Lib.hid iter_below
  clear iter_below
  go_enter Tryz.func55, Tryz.ntmps55
  go_wp2_with fail
  go_loopg [176] s.size (fun g _ wx => ∃ i : Nat, i + g = s.size ∧ wx = w.iter s i)
  case atStart => exact ⟨0, by omega, rfl⟩
  case round =>
    obtain ⟨i, hig, rfl⟩ := hrel
    cases gk with
    | zero =>
      obtain rfl : i = s.size := by omega
      have hnx := run_next_end (P := Tryz.prog) w s s.size
      go_wp2
      go_ret
      exact ⟨rfl, HI.out _⟩
    | succ g =>
      have hi : i < s.size := by omega
      have h128 := HA.out s[i] (bmem s i hi)
      have hnx := fun ty => run_next_ascii (P := Tryz.prog) w s i ty hi h128
      generalize s[i] = x at *
      have g1 : ((x.toNat : Int) == 65533) = false := by rw [beq_eq_false_iff_ne]; omega
      go_wp2
      go_roundg g
      case measure => omega
      case rel => exact ⟨i + 1, by omega, rfl⟩
/-- where a rune stands in a set of ASCII letters -/
def idxR (l : List UInt8) (r : Nat) : Int := if r < 128 then Lib.indexByte l (UInt8.ofNat r) else -1
set_option maxHeartbeats 1000000 in
theorem indexRune_any (s : ByteArray) (hs : Asc s.data.toList) (hl : s.size ≤ 4294967296) (r : Nat) (h2 : r ≤ 1114111) (w : World) :
    Calls Tryz.prog 55 #[.string s, .int .i32 r] w fun e w' => e = .returned (.int .i64 (idxR s.data.toList r)) ∧ Below w.heap.size w w' := by
  unfold idxR
  by_cases h : r < 128
  · rw [if_pos h]
    refine (Tryz.strings_IndexRune_ascii s r w (by omega) (by omega)).mono fun e w' ⟨h1, h2⟩ => ⟨?_, h2 ▸ Below.refl _ _⟩
    rw [h1, Int.toNat_natCast]
  · rw [if_neg h]
    by_cases h3 : r = 65533
    · subst h3; exact indexRune_err s hs w
    · exact indexRune_high s hs hl r (by omega) (by omega) (by omega) w
def inR (l : List UInt8) (r : Nat) : Bool := decide (0 ≤ idxR l r)
theorem inR_is (l : List UInt8) (r : Nat) : inR l r = (decide (r < 128) && l.contains (UInt8.ofNat r)) := by
  unfold inR idxR
  by_cases h : r < 128
  · rw [if_pos h, Lib.contains_iff_indexByte]; simp [h]
  · rw [if_neg h]; simp [h]
set_option maxHeartbeats 1000000 in
theorem containsRune_any (s : ByteArray) (hs : Asc s.data.toList) (hl : s.size ≤ 4294967296) (r : Nat) (h2 : r ≤ 1114111) (w : World) :
    Calls Tryz.prog 34 #[.string s, .int .i32 r] w fun e w' => e = .returned (.bool (inR s.data.toList r)) ∧ Below w.heap.size w w' := by
  have HC := Lib.hid (indexRune_any s hs hl r h2 w)
  unfold inR
  generalize idxR s.data.toList r = x at *
  go_enter Tryz.func34, Tryz.ntmps34
  go_wp2_with fail
  refine HC.out.mono ?_
  rintro e w1 ⟨rfl, hb⟩
  have HB := Lib.hid hb
  clear hb
  go_wp2
  go_ret
  exact ⟨rfl, HB.out⟩
theorem NoAny.past {s chars : List UInt8} {i n : Nat} (h : Lib.NoAny s chars i) (hc : Asc chars) (hh : ∀ j, i ≤ j → j < i + n → ∀ b, s[j]? = some b → 128 ≤ b.toNat) : Lib.NoAny s chars (i + n) := fun j b hj hb => by
  by_cases hji : j < i
  · exact h j b hji hb
  · have := hh j (by omega) hj b hb
    cases hx : chars.contains b with
    | false => rfl
    | true => have := hc b (by simpa using hx); omega
/-- the iterator of the range lies at block k, at place i -/
structure ItAt (w wx : World) (k : Nat) (s : ByteArray) (i : Nat) : Prop where
  b : Below w.heap.size w wx
  i : wx.heap[k]? = some (.stringIter s i)
  k : w.heap.size ≤ k
theorem ItAt.to {w wx wy : World} {k i : Nat} {s : ByteArray} (h : ItAt w wx k s i) (hb : Below wx.heap.size wx wy) : ItAt w wy k s i :=
  ⟨h.b.trans (hb.mono h.b.size), (hb.block k (Array.getElem?_eq_some_iff.1 h.i).1).trans h.i, h.k⟩
set_option maxHeartbeats 4000000 in
set_option maxRecDepth 100000 in
theorem indexAny_short (s chars : ByteArray) (w : World) (h2 : 2 ≤ chars.size) (h8 : s.size ≤ 8) (hc : Asc chars.data.toList) (hcl : chars.size ≤ 4294967296) :
    Calls Tryz.prog 98 #[.string s, .string chars] w fun e w' => e = .returned (.int .i64 (Lib.indexAny s.data.toList chars.data.toList)) ∧ Below w.heap.size w w' := by
  have HA := Lib.hid hc
  have HIX := Lib.hid (fun r (h : r ≤ 1114111) W => indexRune_any chars hc hcl r h W)
  have hemp : chars.toList.isEmpty = false := by
    rw [Lib.toList_data]
    cases h : chars.data.toList with
    | nil => have := Lib.size_eq chars; rw [h, List.length_nil] at this; omega
    | cons _ _ => rfl
  have hn1 : ((chars.size : Int) == 1) = false := beq_eq_false_iff_ne.2 (by omega)
  have h8z : decide ((8 : Int) < (s.size : Int)) = false := decide_eq_false (by omega)
  clear hc
  go_enter Tryz.func98, Tryz.ntmps98
  go_wp2_with (go_at_call 113; refine (Tryz.strings_shouldUseASCIISet _ _).mono ?_; rintro e w' ⟨rfl, hw⟩; rw [hw, h8z])
  go_loopg [9, 10] s.size (fun g _ _ wx => ∃ i : Nat, s.size ≤ i + g ∧ i ≤ s.size ∧ Hid (ItAt w wx w.heap.size s i) ∧ Hid (Lib.NoAny s.data.toList chars.data.toList i))
  case atStart => exact ⟨0, by omega, by omega, Lib.hid ⟨(Below.refl _ w).alloc (Nat.le_refl _) _, by simp [World.iter_heap], Nat.le_refl _⟩, Lib.hid (Lib.NoAny.zero _ _)⟩
  case round =>
    obtain ⟨i, hig, his, HI, HN⟩ := hrel
    by_cases hi : i < s.size
    · obtain ⟨g, rfl⟩ : ∃ g, gk = g + 1 := ⟨gk - 1, by omega⟩
      have step : ∀ i', Hid (ItAt w (wr.iterAt w.heap.size s i') w.heap.size s i') := fun i' => Lib.hid ⟨Lib.below_iterAt HI.out.b (Nat.le_refl _) s i', Lib.iterAt_heap _ _ _ i i' HI.out.i, Nat.le_refl _⟩
      by_cases h128 : s[i].toNat < 128
      · have hnx := fun ty => Lib.run_next_ascii_at (P := Tryz.prog) wr w.heap.size s i ty HI.out.i hi h128
        have HS := step (i + 1)
        have hxl : s.data.toList[i]? = some s[i] := by rw [List.getElem?_eq_getElem (by simpa using hi)]; rfl
        have HX := Lib.hid hxl
        have hcon := Lib.contains_iff_indexByte chars.data.toList s[i]
        have hidx : idxR chars.data.toList s[i].toNat = Lib.indexByte chars.data.toList s[i] := by
          unfold idxR; rw [if_pos h128]; congr 1; simp
        have HC := Lib.hid (HIX.out s[i].toNat (by omega))
        rw [hidx] at HC
        clear step hidx hxl
        generalize s[i] = x at *
        cases hin : chars.data.toList.contains x with
        | false =>
          rw [hin] at hcon
          have hlt : ¬ ((0 : Int) ≤ Lib.indexByte chars.data.toList x) := of_decide_eq_false hcon.symm
          clear hcon
          have HNN := Lib.hid (HN.out.succ HX.out hin)
          generalize Lib.indexByte chars.data.toList x = v at *
          go_wp2_with fail
          refine (HC.out _).mono ?_
          rintro e w1 ⟨rfl, hb1⟩
          have HS1 := Lib.hid (HS.out.to hb1)
          clear hb1
          go_wp2
          go_roundg g
          case measure => omega
          case rel => exact ⟨i + 1, by omega, by omega, HS1, HNN⟩
        | true =>
          rw [hin] at hcon
          have hge : (0 : Int) ≤ Lib.indexByte chars.data.toList x := of_decide_eq_true hcon.symm
          clear hcon
          have HNN := Lib.hid (Lib.indexAny_hit HN.out HX.out hin)
          generalize Lib.indexByte chars.data.toList x = v at *
          go_wp2_with fail
          refine (HC.out _).mono ?_
          rintro e w1 ⟨rfl, hb1⟩
          have HS1 := Lib.hid (HS.out.to hb1)
          clear hb1
          go_wp2
          go_ret
          exact ⟨ret_int HNN.out.symm, HS1.out.b⟩
      · obtain ⟨d1, d2, d3, d4, d5⟩ := dec_high s i hi (by omega)
        have hnx := fun ty => Lib.run_next_any_at (P := Tryz.prog) wr w.heap.size s i ty HI.out.i hi
        have HS := step (i + (Utf8.decode s i).2)
        have HC := Lib.hid (HIX.out (Utf8.decode s i).1 d2)
        have hidx : idxR chars.data.toList (Utf8.decode s i).1 = -1 := by unfold idxR; rw [if_neg (by omega)]
        rw [hidx] at HC
        have HNN := Lib.hid (NoAny.past HN.out HA.out d5)
        clear step hidx d5
        generalize (Utf8.decode s i).1 = x at *
        generalize (Utf8.decode s i).2 = n at *
        go_wp2_with fail
        refine (HC.out _).mono ?_
        rintro e w1 ⟨rfl, hb1⟩
        have HS1 := Lib.hid (HS.out.to hb1)
        clear hb1
        go_wp2
        go_roundg g
        case measure => omega
        case rel => exact ⟨i + n, by omega, by omega, HS1, HNN⟩
    · have hnx := fun ty => Lib.run_next_end_at (P := Tryz.prog) wr w.heap.size s i ty HI.out.i hi
      have HNN := Lib.hid (show Lib.indexAny s.data.toList chars.data.toList = -1 from Lib.indexAny_none (by rw [show s.data.toList.length = i by simp; omega]; exact HN.out))
      go_wp2
      go_ret
      exact ⟨ret_int HNN.out.symm, HI.out.b⟩
set_option maxHeartbeats 1000000 in
theorem indexAny_any (s chars : ByteArray) (w : World) (h2 : 2 ≤ chars.size) (hs : s.size < 4294967281) (hc : Asc chars.data.toList) (hcl : chars.size < 4294967281) :
    Calls Tryz.prog 98 #[.string s, .string chars] w fun e w' => e = .returned (.int .i64 (Lib.indexAny s.data.toList chars.data.toList)) ∧ Below w.heap.size w w' := by
  by_cases h8 : s.size ≤ 8
  · exact indexAny_short s chars w h2 h8 hc (by omega)
  · refine (Tryz.strings_IndexAny_long (fun w => by kernel_rfl) s chars w h2 (by omega) hs hcl (fun j b hb => hc b (List.mem_of_getElem? hb))).mono fun e w' ⟨h1, h2⟩ => ⟨h1, h2 ▸ ?_⟩
    exact ((Below.refl _ w).alloc (Nat.le_refl _) _).alloc (by simp) _
set_option maxHeartbeats 1000000 in
theorem containsAny_any (s chars : ByteArray) (w : World) (h2 : 2 ≤ chars.size) (hs : s.size < 4294967281) (hc : Asc chars.data.toList) (hcl : chars.size < 4294967281) (b : Bool) (hb : Lib.containsAny s.data.toList chars.data.toList = b) :
    Calls Tryz.prog 85 #[.string s, .string chars] w fun e w' => e = .returned (.bool b) ∧ Below w.heap.size w w' := by
  have HC := Lib.hid (indexAny_any s chars w h2 hs hc hcl)
  have HB := Lib.hid hb
  unfold Lib.containsAny at HB
  clear hb
  generalize Lib.indexAny s.data.toList chars.data.toList = v at *
  go_enter Tryz.func85, Tryz.ntmps85
  go_wp2_with fail
  refine HC.out.mono ?_
  rintro e w1 ⟨rfl, hb1⟩
  have HB1 := Lib.hid hb1
  clear hb1
  go_wp2
  go_ret
  exact ⟨ret_bool HB.out, HB1.out⟩
end Go.Proofs.YtempmmkdppelaaaGreatDoor
/-
  Plain mathematics for package pct (no program is named here): the sets of bytes, percent-encoding, percent-decoding, and the case of ASCII letters, as functions on lists of bytes, with the facts about them that the walks and the laws use. No conditions.
-/
namespace Go.Proofs.YtempmmkdppelaaaGreatDoor.M

/-! ### Sets -/
def hasB (l : List Nat) (b : Nat) : Bool := l.contains b
def inB (s b : Nat) : Bool :=
  if s = 0 ∨ 9 ≤ s then false else
  if b < 32 ∨ 126 < b then true else
  match s with
  | 1 => false
  | 2 => hasB [32, 34, 60, 62, 96] b
  | 3 => hasB [32, 34, 35, 60, 62] b
  | 4 => hasB [32, 34, 35, 60, 62] b || b == 39
  | 5 => hasB [32, 34, 35, 60, 62] b || hasB [63, 94, 96, 123, 125] b
  | 6 => hasB [32, 34, 35, 60, 62] b || hasB [63, 94, 96, 123, 125] b || hasB [47, 58, 59, 61, 64, 91, 92, 93, 124] b
  | 7 => hasB [32, 34, 35, 60, 62] b || hasB [63, 94, 96, 123, 125] b || hasB [47, 58, 59, 61, 64, 91, 92, 93, 124] b || hasB [36, 37, 38, 43, 44] b
  | _ => hasB [32, 34, 35, 60, 62] b || hasB [63, 94, 96, 123, 125] b || hasB [47, 58, 59, 61, 64, 91, 92, 93, 124] b || hasB [36, 37, 38, 43, 44] b || hasB [33, 39, 40, 41, 126] b

abbrev Marks := Nat × Nat × Nat × Nat
def sb (m : Marks) (v : Nat) : Marks :=
  if v / 64 = 0 then (m.1 ||| 2 ^ (v % 64), m.2.1, m.2.2.1, m.2.2.2)
  else if v / 64 = 1 then (m.1, m.2.1 ||| 2 ^ (v % 64), m.2.2.1, m.2.2.2)
  else if v / 64 = 2 then (m.1, m.2.1, m.2.2.1 ||| 2 ^ (v % 64), m.2.2.2)
  else (m.1, m.2.1, m.2.2.1, m.2.2.2 ||| 2 ^ (v % 64))
def okM (m : Marks) : Prop := m.1 < 2 ^ 64 ∧ m.2.1 < 2 ^ 64 ∧ m.2.2.1 < 2 ^ 64 ∧ m.2.2.2 < 2 ^ 64
theorem or_lt (a v : Nat) (h : a < 2 ^ 64) : a ||| 2 ^ (v % 64) < 2 ^ 64 :=
  Nat.or_lt_two_pow h (Nat.pow_lt_pow_right (by omega) (Nat.mod_lt _ (by omega)))
theorem sb_ok (m : Marks) (v : Nat) (h : okM m) : okM (sb m v) := by
  obtain ⟨h0, h1, h2, h3⟩ := h
  unfold sb
  split
  · exact ⟨or_lt _ _ h0, h1, h2, h3⟩
  · split
    · exact ⟨h0, or_lt _ _ h1, h2, h3⟩
    · split
      · exact ⟨h0, h1, or_lt _ _ h2, h3⟩
      · exact ⟨h0, h1, h2, or_lt _ _ h3⟩
theorem fold_ok (l : List Nat) (m : Marks) (h : okM m) : okM (l.foldl sb m) := by
  induction l generalizing m with
  | nil => exact h
  | cons v l ih => exact ih _ (sb_ok m v h)
def mk (s : Nat) : Marks :=
  match s with
  | 1 => (4294967295, 9223372036854775808, 18446744073709551615, 18446744073709551615)
  | 2 => [32, 34, 60, 62, 96].foldl sb (mk 1)
  | 3 => [32, 34, 35, 60, 62].foldl sb (mk 1)
  | 4 => [39].foldl sb (mk 3)
  | 5 => [63, 94, 96, 123, 125].foldl sb (mk 3)
  | 6 => [47, 58, 59, 61, 64, 91, 92, 93, 124].foldl sb (mk 5)
  | 7 => [36, 37, 38, 43, 44].foldl sb (mk 6)
  | 8 => [33, 39, 40, 41, 126].foldl sb (mk 7)
  | _ => (0, 0, 0, 0)
def bitAt (m : Marks) (b : Nat) : Bool :=
  ([m.1, m.2.1, m.2.2.1, m.2.2.2].getD (b / 64) 0) / 2 ^ (b % 64) % 2 == 1
theorem bit_in_small : ∀ s, s < 9 → ∀ b, b < 256 → bitAt (mk s) b = inB s b := by decide +kernel
theorem mk_big (s : Nat) (h : 9 ≤ s) : mk s = (0, 0, 0, 0) := by
  unfold mk; split <;> first | omega | rfl
theorem bit_in (s b : Nat) (hb : b < 256) : bitAt (mk s) b = inB s b := by
  by_cases h : s < 9
  · exact bit_in_small s h b hb
  · rw [mk_big s (by omega)]
    have : inB s b = false := by unfold inB; rw [if_pos (Or.inr (by omega))]
    rw [this]
    unfold bitAt
    have h4 : b / 64 = 0 ∨ b / 64 = 1 ∨ b / 64 = 2 ∨ b / 64 = 3 := by omega
    rcases h4 with h | h | h | h <;> rw [h] <;> simp
theorem mk_ok (s : Nat) : okM (mk s) := by
  by_cases h : s < 9
  · have : ∀ s, s < 9 → (mk s).1 < 2 ^ 64 ∧ (mk s).2.1 < 2 ^ 64 ∧ (mk s).2.2.1 < 2 ^ 64 ∧ (mk s).2.2.2 < 2 ^ 64 := by decide +kernel
    exact this s h
  · rw [mk_big s (by omega)]; exact ⟨by decide, by decide, by decide, by decide⟩

/-! ### Encoding -/
def hexU (n : Nat) : UInt8 := if n < 10 then UInt8.ofNat (48 + n) else UInt8.ofNat (55 + n)
def enc1 (s : Nat) (b : UInt8) : List UInt8 := if inB s b.toNat then [37, hexU (b.toNat / 16), hexU (b.toNat % 16)] else [b]
def enc (s : Nat) (l : List UInt8) : List UInt8 := l.flatMap (enc1 s)

/-! ### Decoding -/
def hexv (n : Nat) : Nat := if 48 ≤ n ∧ n ≤ 57 then n - 48 else if 97 ≤ n ∧ n ≤ 102 then n - 87 else if 65 ≤ n ∧ n ≤ 70 then n - 55 else 16
def dec : List UInt8 → List UInt8
  | [] => []
  | c :: rest => match rest with
    | [] => [c]
    | [d] => c :: dec [d]
    | h :: l :: r => if c = 37 ∧ hexv h.toNat < 16 ∧ hexv l.toNat < 16 then UInt8.ofNat (hexv h.toNat * 16 + hexv l.toNat) :: dec r else c :: dec (h :: l :: r)

def escL : List UInt8 → Option UInt8
  | c :: h :: l :: _ => if c = 37 ∧ hexv h.toNat < 16 ∧ hexv l.toNat < 16 then some (UInt8.ofNat (hexv h.toNat * 16 + hexv l.toNat)) else none
  | _ => none
theorem dec_some {l : List UInt8} {v : UInt8} (h : escL l = some v) : 3 ≤ l.length ∧ dec l = v :: dec (l.drop 3) := by
  match l, h with
  | c :: h1 :: l1 :: r, h =>
    simp only [escL] at h
    by_cases hc : c = 37 ∧ hexv h1.toNat < 16 ∧ hexv l1.toNat < 16
    · rw [if_pos hc] at h
      cases h
      refine ⟨by simp, ?_⟩
      rw [dec, if_pos hc]; rfl
    · rw [if_neg hc] at h; cases h
theorem dec_none {c : UInt8} {r : List UInt8} (h : escL (c :: r) = none) : dec (c :: r) = c :: dec r := by
  match r, h with
  | [], _ => rfl
  | [d], _ => rfl
  | h1 :: l1 :: r, h =>
    simp only [escL] at h
    by_cases hc : c = 37 ∧ hexv h1.toNat < 16 ∧ hexv l1.toNat < 16
    · rw [if_pos hc] at h; cases h
    · rw [dec, if_neg hc]
theorem dec_nil : dec [] = [] := rfl
theorem hexv_le (n : Nat) : hexv n ≤ 16 := by unfold hexv; split <;> (try split) <;> (try split) <;> omega

/-! ### Case -/
def low (b : UInt8) : UInt8 := if 65 ≤ b.toNat ∧ b.toNat ≤ 90 then UInt8.ofNat (b.toNat + 32) else b
def upp (b : UInt8) : UInt8 := if 97 ≤ b.toNat ∧ b.toNat ≤ 122 then UInt8.ofNat (b.toNat - 32) else b
end Go.Proofs.YtempmmkdppelaaaGreatDoor.M
