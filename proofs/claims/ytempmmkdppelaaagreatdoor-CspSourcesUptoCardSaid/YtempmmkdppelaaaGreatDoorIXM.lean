import Derived.Test.YtempmmkdppelaaaGreatDoorPBM
import Derived.Test.YtempmmkdppelaaaGreatDoorShelfM
import Derived.Laws.RangeAny
import Derived.Laws.Runes
import Derived.Lib.TrimU
import Derived.Lib.FieldsU
import Derived.IntWalk
import Derived.WalkMore
import Derived.Lib.QuoteLoop
import Derived.Lib.SpaceUEq
import Derived.Lib.IndexAny
import Derived.Lib.MapLaws
/-
  strings.IndexRune, ContainsRune, IndexAny, ContainsAny at a set of ASCII letters: for every rune, for every text.
-/
namespace Go.Proofs.YtempmmkdppelaaaGreatDoor
open Go.RowKit
theorem idxB_none (l : List UInt8) (c : UInt8) (h : c ∉ l) : Lib.indexByte l c = -1 := by
  induction l with
  | nil => rfl
  | cons b r ih =>
    have hb : (b == c) = false := by
      rw [beq_eq_false_iff_ne]; intro e; exact h (by simp [e])
    have := ih (fun h' => h (List.mem_cons_of_mem _ h'))
    unfold Lib.indexByte
    rw [hb, this]; rfl
/-- a valid rune past ASCII is written in two to four bytes, all of which are past ASCII -/
theorem enc_high (r : Int) (h1 : 128 ≤ r) (hv : Utf8.valid r = true) : ∃ (E : ByteArray) (n : Nat), Utf8.encode r = E ∧ (n = 1 ∨ n = 2 ∨ n = 3) ∧ ∃ h : E.size = n + 1, 128 ≤ (E[n]'(by omega)).toNat := by
  have hc : ¬ r.toNat < 128 := by omega
  have last : ∀ k : Nat, 128 ≤ (UInt8.ofNat (0x80 + k % 64)).toNat := fun k => by rw [UInt8.toNat_ofNat']; omega
  by_cases h2 : r.toNat < 2048
  · refine ⟨⟨#[UInt8.ofNat (0xC0 + r.toNat / 64), UInt8.ofNat (0x80 + r.toNat % 64)]⟩, 1, ?_, .inl rfl, rfl, last _⟩
    unfold Utf8.encode; simp [hv, hc, h2]
  · by_cases h3 : r.toNat < 65536
    · refine ⟨⟨#[UInt8.ofNat (0xE0 + r.toNat / 4096), UInt8.ofNat (0x80 + r.toNat / 64 % 64), UInt8.ofNat (0x80 + r.toNat % 64)]⟩, 2, ?_, .inr (.inl rfl), rfl, last _⟩
      unfold Utf8.encode; simp [hv, hc, h2, h3]
    · refine ⟨⟨#[UInt8.ofNat (0xF0 + r.toNat / 262144), UInt8.ofNat (0x80 + r.toNat / 4096 % 64), UInt8.ofNat (0x80 + r.toNat / 64 % 64), UInt8.ofNat (0x80 + r.toNat % 64)]⟩, 3, ?_, .inr (.inr rfl), rfl, last _⟩
      unfold Utf8.encode; simp [hv, hc, h2, h3]
theorem bmem (s : ByteArray) (k : Nat) (h : k < s.size) : s[k] ∈ s.data.toList := List.mem_iff_getElem.2 ⟨k, by simpa using h, rfl⟩
theorem idxByte_no (t : ByteArray) (x : UInt8) (h : x ∉ t.data.toList) (W : World) : Calls Tryz.prog 79 #[.string t, .int .u8 x.toNat] W fun e w' => e = .returned (.int .i64 (-1)) ∧ W = w' :=
  (Tryz.strings_IndexByte t x.toNat W).mono fun e w' h' => ⟨by rw [h'.1, Int.toNat_natCast, show x.toNat.toUInt8 = x by simp, idxB_none _ _ h], h'.2.symm⟩
def Asc (l : List UInt8) : Prop := ∀ b ∈ l, b.toNat < 128
set_option maxHeartbeats 4000000 in
set_option maxRecDepth 100000 in
theorem indexRune_high (s : ByteArray) (hs : Asc s.data.toList) (hl : s.size ≤ 4294967296) (r : Int) (h1 : 128 ≤ r) (h2 : r ≤ 1114111) (h3 : r ≠ 65533) (w : World) :
    Calls Tryz.prog 55 #[.string s, .int .i32 r] w fun e w' => e = .returned (.int .i64 (-1)) ∧ Below w.heap.size w w' := by
  have i0 : ¬ (r < 128) := by omega
  have i1 : (0 : Int) ≤ r := by omega
  have i2 : (r == 65533) = false := by rw [beq_eq_false_iff_ne]; exact h3
  cases hv : Lib.validRune r with
  | false =>
    have HV := Lib.hid hv
    go_enter Tryz.func55, Tryz.ntmps55
    go_wp2_with fail
    refine (Tryz.utf8_ValidRune _ _).mono ?_
    rintro e w' ⟨rfl, hw⟩
    subst hw
    rw [HV.out]
    go_wp2
    go_ret
    exact ⟨rfl, Below.refl _ _⟩
  | true =>
    have HV := Lib.hid hv
    have hvu : Utf8.valid r = true := by
      unfold Lib.validRune at hv
      have := of_decide_eq_true hv
      unfold Utf8.valid
      simp only [Bool.or_eq_true, Bool.and_eq_true, decide_eq_true_eq]
      omega
    obtain ⟨E, n, hE, hn, hsz, hlast⟩ := enc_high r h1 hvu
    have HNI := Lib.hid (fun (k : Nat) (W : World) => idxByte_no (s.extract k s.size) E[n] (fun hm => by
      have : E[n] ∈ s.data.toList := by
        simp only [ByteArray.data_extract, Array.toList_extract, List.extract_eq_take_drop] at hm
        exact List.mem_of_mem_drop (List.mem_of_mem_take hm)
      have := hs _ this
      omega) W)
    have HNE := Lib.hid (fun (k : Nat) (h : k < s.size) => show ((s[k].toNat : Int) != (E[n].toNat : Int)) = true from by
      have := hs s[k] (bmem s k h)
      simp only [bne_iff_ne, ne_eq]; omega)
    clear hvu hv hs
    have hcv : ∀ W, (convert 21 9 (.int .i32 r)).run Tryz.prog W = .ok (.string E) W := fun W => by rw [run_convert_int_string W 21 9 .i32 r (by rw [Tryz.underlying21]; rfl) Tryz.underlying9, hE]
    have HE := Lib.hid hE
    clear hE
    have hmx : (s.size : Int) ≤ 4294967296 := by omega
    rcases hn with rfl | rfl | rfl
    · go_enter Tryz.func55, Tryz.ntmps55
      go_wp2_with fail
      refine (Tryz.utf8_ValidRune _ _).mono ?_
      rintro e w' ⟨rfl, hw⟩
      subst hw
      rw [HV.out]
      go_wp2_with fail
      go_step3
      go_wp2_with fail
      go_loopw [9] (fun i wr => i = .int .i64 1 ∧ wr = w') (fun _ _ => 0)
      case atStart => exact ⟨rfl, rfl⟩
      case round =>
        obtain ⟨rfl, rfl⟩ := hrel
        by_cases hlt : 1 < s.size
        · have j1 : (1 : Int) < (s.size : Int) := by omega
          have j2 := HNE.out 1 hlt
          have j3 : (2 : Int) ≤ (s.size : Int) := by omega
          have j4 : 2 ≤ s.size := by omega
          go_wp2_with fail
          go_step3
          go_wp2_with fail
          go_quiet (fail)
          go_wp2_with fail
          have HBw := Lib.hid (below_dn (Below.refl wr.heap.size wr) nq)
          generalize wr.drewN nq = w2 at *
          go_quiet ((go_at_call 79; exact Calls.quiet_of_same ((HNI.out 2 _).mono fun _ _ h => ⟨h.1, h.2.symm⟩)))
          go_wp2
          simp (zetaDelta := true) only [Exit.inBlock, Exit.then, Exit.noGoto_ret]
          go_ret
          exact ⟨rfl, below_dn HBw.out _⟩
        · have j1 : ¬ (1 : Int) < (s.size : Int) := by omega
          go_wp2
          (try rw [Exit.noGoto_ret])
          go_ret
          exact ⟨rfl, Below.refl _ _⟩
    · go_enter Tryz.func55, Tryz.ntmps55
      go_wp2_with fail
      refine (Tryz.utf8_ValidRune _ _).mono ?_
      rintro e w' ⟨rfl, hw⟩
      subst hw
      rw [HV.out]
      go_wp2_with fail
      go_step3
      go_wp2_with fail
      go_loopw [9] (fun i wr => i = .int .i64 2 ∧ wr = w') (fun _ _ => 0)
      case atStart => exact ⟨rfl, rfl⟩
      case round =>
        obtain ⟨rfl, rfl⟩ := hrel
        by_cases hlt : 2 < s.size
        · have j1 : (2 : Int) < (s.size : Int) := by omega
          have j2 := HNE.out 2 hlt
          have j3 : (3 : Int) ≤ (s.size : Int) := by omega
          have j4 : 3 ≤ s.size := by omega
          go_wp2_with fail
          go_step3
          go_wp2_with fail
          go_quiet (fail)
          go_wp2_with fail
          have HBw := Lib.hid (below_dn (Below.refl wr.heap.size wr) nq)
          generalize wr.drewN nq = w2 at *
          go_quiet ((go_at_call 79; exact Calls.quiet_of_same ((HNI.out 3 _).mono fun _ _ h => ⟨h.1, h.2.symm⟩)))
          go_wp2
          simp (zetaDelta := true) only [Exit.inBlock, Exit.then, Exit.noGoto_ret]
          go_ret
          exact ⟨rfl, below_dn HBw.out _⟩
        · have j1 : ¬ (2 : Int) < (s.size : Int) := by omega
          go_wp2
          (try rw [Exit.noGoto_ret])
          go_ret
          exact ⟨rfl, Below.refl _ _⟩
    · go_enter Tryz.func55, Tryz.ntmps55
      go_wp2_with fail
      refine (Tryz.utf8_ValidRune _ _).mono ?_
      rintro e w' ⟨rfl, hw⟩
      subst hw
      rw [HV.out]
      go_wp2_with fail
      go_step3
      go_wp2_with fail
      go_loopw [9] (fun i wr => i = .int .i64 3 ∧ wr = w') (fun _ _ => 0)
      case atStart => exact ⟨rfl, rfl⟩
      case round =>
        obtain ⟨rfl, rfl⟩ := hrel
        by_cases hlt : 3 < s.size
        · have j1 : (3 : Int) < (s.size : Int) := by omega
          have j2 := HNE.out 3 hlt
          have j3 : (4 : Int) ≤ (s.size : Int) := by omega
          have j4 : 4 ≤ s.size := by omega
          go_wp2_with fail
          go_step3
          go_wp2_with fail
          go_quiet (fail)
          go_wp2_with fail
          have HBw := Lib.hid (below_dn (Below.refl wr.heap.size wr) nq)
          generalize wr.drewN nq = w2 at *
          go_quiet ((go_at_call 79; exact Calls.quiet_of_same ((HNI.out 4 _).mono fun _ _ h => ⟨h.1, h.2.symm⟩)))
          go_wp2
          simp (zetaDelta := true) only [Exit.inBlock, Exit.then, Exit.noGoto_ret]
          go_ret
          exact ⟨rfl, below_dn HBw.out _⟩
        · have j1 : ¬ (3 : Int) < (s.size : Int) := by omega
          go_wp2
          (try rw [Exit.noGoto_ret])
          go_ret
          exact ⟨rfl, Below.refl _ _⟩
end Go.Proofs.YtempmmkdppelaaaGreatDoor
/-
  strings.ContainsRune, IndexAny, ContainsAny at a set of ASCII letters, for every rune and every text.
-/
namespace Go.Proofs.YtempmmkdppelaaaGreatDoor
open Go.RowKit
/-- what a byte past ASCII is read as: a rune past ASCII, of bytes past ASCII -/
theorem dec_high (s : ByteArray) (i : Nat) (hi : i < s.size) (h : 128 ≤ s[i].toNat) : 128 ≤ (Utf8.decode s i).1 ∧ (Utf8.decode s i).1 ≤ 1114111 ∧ 1 ≤ (Utf8.decode s i).2 ∧ i + (Utf8.decode s i).2 ≤ s.size ∧ ∀ j, i ≤ j → j < i + (Utf8.decode s i).2 → ∀ b, s.data.toList[j]? = some b → 128 ≤ b.toNat := by
  have hg : ∀ k, k < s.size → s.get! k = s.data.toList.getD k 0 := fun k hk => by
    rw [show s.get! k = s.data[k]! from rfl]
    rw [getElem!_pos s.data k hk, List.getD_eq_getElem?_getD, List.getElem?_eq_getElem (by simpa using hk)]; rfl
  have h0 : (s.get! i).toNat = s[i].toNat := by
    rw [show s.get! i = s.data[i]! from rfl, getElem!_pos s.data i hi]; rfl
  have hlt := UInt8.toNat_lt (s.get! i)
  rw [Lib.decode_at]
  have c1 := Lib.decodeN_conts (s.size - i) (s.get! i).toNat (s.get! (i + 1)).toNat (s.get! (i + 2)).toNat (s.get! (i + 3)).toNat
  have c2 := Lib.decodeN_width_le (s.size - i) (s.get! i).toNat (s.get! (i + 1)).toNat (s.get! (i + 2)).toNat (s.get! (i + 3)).toNat (by omega)
  have c3 := Lib.decodeN_valid (s.size - i) (s.get! i).toNat (s.get! (i + 1)).toNat (s.get! (i + 2)).toNat (s.get! (i + 3)).toNat hlt
  have c4 := Lib.decodeN_ge1 (s.size - i) (s.get! i).toNat (s.get! (i + 1)).toNat (s.get! (i + 2)).toNat (s.get! (i + 3)).toNat
  have c5 : 128 ≤ (Lib.decodeN (s.size - i) (s.get! i).toNat (s.get! (i + 1)).toNat (s.get! (i + 2)).toNat (s.get! (i + 3)).toNat).1 := by
    rcases Lib.decodeN_shape (s.size - i) (s.get! i).toNat (s.get! (i + 1)).toNat (s.get! (i + 2)).toNat (s.get! (i + 3)).toNat with ⟨a, _⟩ | ⟨_, _, _, a, e⟩ | ⟨_, _, _, _, a, _, e⟩ | ⟨_, _, _, _, _, a, _, e⟩ | e
    · omega
    all_goals (rw [e]; simp only; omega)
  generalize Lib.decodeN (s.size - i) (s.get! i).toNat (s.get! (i + 1)).toNat (s.get! (i + 2)).toNat (s.get! (i + 3)).toNat = d at *
  refine ⟨c5, by omega, c4, by omega, fun j hj hj2 b hb => ?_⟩
  have hjs : j < s.size := by have := (List.getElem?_eq_some_iff.1 hb).1; simpa using this
  have hbj : s.get! j = b := by rw [hg j hjs, List.getD_eq_getElem?_getD, hb]; rfl
  obtain ⟨d1, d2, d3, d4⟩ := c1
  rcases (show j = i ∨ j = i + 1 ∨ j = i + 2 ∨ j = i + 3 by omega) with rfl | rfl | rfl | rfl
  · rw [hbj] at h0; omega
  · have := (d1 (by omega)).1; rw [hbj] at this; omega
  · have := (d2 (by omega)).1; rw [hbj] at this; omega
  · have := (d3 (by omega)).1; rw [hbj] at this; omega
set_option maxHeartbeats 2000000 in
set_option maxRecDepth 100000 in
theorem indexRune_err (s : ByteArray) (hs : Asc s.data.toList) (w : World) :
    Calls Tryz.prog 55 #[.string s, .int .i32 65533] w fun e w' => e = .returned (.int .i64 (-1)) ∧ Below w.heap.size w w' := by
  have HA := Lib.hid hs
  clear hs
  have iter_below : ∀ p, Below w.heap.size w (w.iter s p) := fun p => (Below.refl _ w).alloc (Nat.le_refl _) _
  have HI := Lib.hid iter_below
  clear iter_below
  go_enter Tryz.func55, Tryz.ntmps55
  go_wp2_with fail
  go_loopg [176] s.size (fun g _ wx => ∃ i : Nat, i + g = s.size ∧ wx = w.iter s i)
  case atStart => exact ⟨0, by omega, rfl⟩
  case round =>
    obtain ⟨i, hig, rfl⟩ := hrel
    cases gk with
    | zero =>
      obtain rfl : i = s.size := by omega
      have hnx := run_next_end (P := Tryz.prog) w s s.size
      go_wp2
      go_ret
      exact ⟨rfl, HI.out _⟩
    | succ g =>
      have hi : i < s.size := by omega
      have h128 := HA.out s[i] (bmem s i hi)
      have hnx := fun ty => run_next_ascii (P := Tryz.prog) w s i ty hi h128
      generalize s[i] = x at *
      have g1 : ((x.toNat : Int) == 65533) = false := by rw [beq_eq_false_iff_ne]; omega
      go_wp2
      go_roundg g
      case measure => omega
      case rel => exact ⟨i + 1, by omega, rfl⟩
/-- where a rune stands in a set of ASCII letters -/
def idxR (l : List UInt8) (r : Nat) : Int := if r < 128 then Lib.indexByte l (UInt8.ofNat r) else -1
set_option maxHeartbeats 1000000 in
theorem indexRune_any (s : ByteArray) (hs : Asc s.data.toList) (hl : s.size ≤ 4294967296) (r : Nat) (h2 : r ≤ 1114111) (w : World) :
    Calls Tryz.prog 55 #[.string s, .int .i32 r] w fun e w' => e = .returned (.int .i64 (idxR s.data.toList r)) ∧ Below w.heap.size w w' := by
  unfold idxR
  by_cases h : r < 128
  · rw [if_pos h]
    refine (Tryz.strings_IndexRune_ascii s r w (by omega) (by omega)).mono fun e w' ⟨h1, h2⟩ => ⟨?_, h2 ▸ Below.refl _ _⟩
    rw [h1, Int.toNat_natCast]
  · rw [if_neg h]
    by_cases h3 : r = 65533
    · subst h3; exact indexRune_err s hs w
    · exact indexRune_high s hs hl r (by omega) (by omega) (by omega) w
def inR (l : List UInt8) (r : Nat) : Bool := decide (0 ≤ idxR l r)
theorem inR_is (l : List UInt8) (r : Nat) : inR l r = (decide (r < 128) && l.contains (UInt8.ofNat r)) := by
  unfold inR idxR
  by_cases h : r < 128
  · rw [if_pos h, Lib.contains_iff_indexByte]; simp [h]
  · rw [if_neg h]; simp [h]
set_option maxHeartbeats 1000000 in
theorem containsRune_any (s : ByteArray) (hs : Asc s.data.toList) (hl : s.size ≤ 4294967296) (r : Nat) (h2 : r ≤ 1114111) (w : World) :
    Calls Tryz.prog 34 #[.string s, .int .i32 r] w fun e w' => e = .returned (.bool (inR s.data.toList r)) ∧ Below w.heap.size w w' := by
  have HC := Lib.hid (indexRune_any s hs hl r h2 w)
  unfold inR
  generalize idxR s.data.toList r = x at *
  go_enter Tryz.func34, Tryz.ntmps34
  go_wp2_with fail
  refine HC.out.mono ?_
  rintro e w1 ⟨rfl, hb⟩
  have HB := Lib.hid hb
  clear hb
  go_wp2
  go_ret
  exact ⟨rfl, HB.out⟩
theorem NoAny.past {s chars : List UInt8} {i n : Nat} (h : Lib.NoAny s chars i) (hc : Asc chars) (hh : ∀ j, i ≤ j → j < i + n → ∀ b, s[j]? = some b → 128 ≤ b.toNat) : Lib.NoAny s chars (i + n) := fun j b hj hb => by
  by_cases hji : j < i
  · exact h j b hji hb
  · have := hh j (by omega) hj b hb
    cases hx : chars.contains b with
    | false => rfl
    | true => have := hc b (by simpa using hx); omega
/-- the iterator of the range lies at block k, at place i -/
structure ItAt (w wx : World) (k : Nat) (s : ByteArray) (i : Nat) : Prop where
  b : Below w.heap.size w wx
  i : wx.heap[k]? = some (.stringIter s i)
  k : w.heap.size ≤ k
theorem ItAt.to {w wx wy : World} {k i : Nat} {s : ByteArray} (h : ItAt w wx k s i) (hb : Below wx.heap.size wx wy) : ItAt w wy k s i :=
  ⟨h.b.trans (hb.mono h.b.size), (hb.block k (Array.getElem?_eq_some_iff.1 h.i).1).trans h.i, h.k⟩
set_option maxHeartbeats 4000000 in
set_option maxRecDepth 100000 in
theorem indexAny_short (s chars : ByteArray) (w : World) (h2 : 2 ≤ chars.size) (h8 : s.size ≤ 8) (hc : Asc chars.data.toList) (hcl : chars.size ≤ 4294967296) :
    Calls Tryz.prog 98 #[.string s, .string chars] w fun e w' => e = .returned (.int .i64 (Lib.indexAny s.data.toList chars.data.toList)) ∧ Below w.heap.size w w' := by
  have HA := Lib.hid hc
  have HIX := Lib.hid (fun r (h : r ≤ 1114111) W => indexRune_any chars hc hcl r h W)
  have hemp : chars.toList.isEmpty = false := by
    rw [Lib.toList_data]
    cases h : chars.data.toList with
    | nil => have := Lib.size_eq chars; rw [h, List.length_nil] at this; omega
    | cons _ _ => rfl
  have hn1 : ((chars.size : Int) == 1) = false := beq_eq_false_iff_ne.2 (by omega)
  have h8z : decide ((8 : Int) < (s.size : Int)) = false := decide_eq_false (by omega)
  clear hc
  go_enter Tryz.func98, Tryz.ntmps98
  go_wp2_with (go_at_call 113; refine (Tryz.strings_shouldUseASCIISet _ _).mono ?_; rintro e w' ⟨rfl, hw⟩; rw [hw, h8z])
  go_loopg [9, 10] s.size (fun g _ _ wx => ∃ i : Nat, s.size ≤ i + g ∧ i ≤ s.size ∧ Hid (ItAt w wx w.heap.size s i) ∧ Hid (Lib.NoAny s.data.toList chars.data.toList i))
  case atStart => exact ⟨0, by omega, by omega, Lib.hid ⟨(Below.refl _ w).alloc (Nat.le_refl _) _, by simp [World.iter_heap], Nat.le_refl _⟩, Lib.hid (Lib.NoAny.zero _ _)⟩
  case round =>
    obtain ⟨i, hig, his, HI, HN⟩ := hrel
    by_cases hi : i < s.size
    · obtain ⟨g, rfl⟩ : ∃ g, gk = g + 1 := ⟨gk - 1, by omega⟩
      have step : ∀ i', Hid (ItAt w (wr.iterAt w.heap.size s i') w.heap.size s i') := fun i' => Lib.hid ⟨Lib.below_iterAt HI.out.b (Nat.le_refl _) s i', Lib.iterAt_heap _ _ _ i i' HI.out.i, Nat.le_refl _⟩
      by_cases h128 : s[i].toNat < 128
      · have hnx := fun ty => Lib.run_next_ascii_at (P := Tryz.prog) wr w.heap.size s i ty HI.out.i hi h128
        have HS := step (i + 1)
        have hxl : s.data.toList[i]? = some s[i] := by rw [List.getElem?_eq_getElem (by simpa using hi)]; rfl
        have HX := Lib.hid hxl
        have hcon := Lib.contains_iff_indexByte chars.data.toList s[i]
        have hidx : idxR chars.data.toList s[i].toNat = Lib.indexByte chars.data.toList s[i] := by
          unfold idxR; rw [if_pos h128]; congr 1; simp
        have HC := Lib.hid (HIX.out s[i].toNat (by omega))
        rw [hidx] at HC
        clear step hidx hxl
        generalize s[i] = x at *
        cases hin : chars.data.toList.contains x with
        | false =>
          rw [hin] at hcon
          have hlt : ¬ ((0 : Int) ≤ Lib.indexByte chars.data.toList x) := of_decide_eq_false hcon.symm
          clear hcon
          have HNN := Lib.hid (HN.out.succ HX.out hin)
          generalize Lib.indexByte chars.data.toList x = v at *
          go_wp2_with fail
          refine (HC.out _).mono ?_
          rintro e w1 ⟨rfl, hb1⟩
          have HS1 := Lib.hid (HS.out.to hb1)
          clear hb1
          go_wp2
          go_roundg g
          case measure => omega
          case rel => exact ⟨i + 1, by omega, by omega, HS1, HNN⟩
        | true =>
          rw [hin] at hcon
          have hge : (0 : Int) ≤ Lib.indexByte chars.data.toList x := of_decide_eq_true hcon.symm
          clear hcon
          have HNN := Lib.hid (Lib.indexAny_hit HN.out HX.out hin)
          generalize Lib.indexByte chars.data.toList x = v at *
          go_wp2_with fail
          refine (HC.out _).mono ?_
          rintro e w1 ⟨rfl, hb1⟩
          have HS1 := Lib.hid (HS.out.to hb1)
          clear hb1
          go_wp2
          go_ret
          exact ⟨ret_int HNN.out.symm, HS1.out.b⟩
      · obtain ⟨d1, d2, d3, d4, d5⟩ := dec_high s i hi (by omega)
        have hnx := fun ty => Lib.run_next_any_at (P := Tryz.prog) wr w.heap.size s i ty HI.out.i hi
        have HS := step (i + (Utf8.decode s i).2)
        have HC := Lib.hid (HIX.out (Utf8.decode s i).1 d2)
        have hidx : idxR chars.data.toList (Utf8.decode s i).1 = -1 := by unfold idxR; rw [if_neg (by omega)]
        rw [hidx] at HC
        have HNN := Lib.hid (NoAny.past HN.out HA.out d5)
        clear step hidx d5
        generalize (Utf8.decode s i).1 = x at *
        generalize (Utf8.decode s i).2 = n at *
        go_wp2_with fail
        refine (HC.out _).mono ?_
        rintro e w1 ⟨rfl, hb1⟩
        have HS1 := Lib.hid (HS.out.to hb1)
        clear hb1
        go_wp2
        go_roundg g
        case measure => omega
        case rel => exact ⟨i + n, by omega, by omega, HS1, HNN⟩
    · have hnx := fun ty => Lib.run_next_end_at (P := Tryz.prog) wr w.heap.size s i ty HI.out.i hi
      have HNN := Lib.hid (show Lib.indexAny s.data.toList chars.data.toList = -1 from Lib.indexAny_none (by rw [show s.data.toList.length = i by simp; omega]; exact HN.out))
      go_wp2
      go_ret
      exact ⟨ret_int HNN.out.symm, HI.out.b⟩
set_option maxHeartbeats 1000000 in
theorem indexAny_any (s chars : ByteArray) (w : World) (h2 : 2 ≤ chars.size) (hs : s.size < 4294967281) (hc : Asc chars.data.toList) (hcl : chars.size < 4294967281) :
    Calls Tryz.prog 98 #[.string s, .string chars] w fun e w' => e = .returned (.int .i64 (Lib.indexAny s.data.toList chars.data.toList)) ∧ Below w.heap.size w w' := by
  by_cases h8 : s.size ≤ 8
  · exact indexAny_short s chars w h2 h8 hc (by omega)
  · refine (Tryz.strings_IndexAny_long (fun w => by kernel_rfl) s chars w h2 (by omega) hs hcl (fun j b hb => hc b (List.mem_of_getElem? hb))).mono fun e w' ⟨h1, h2⟩ => ⟨h1, h2 ▸ ?_⟩
    exact ((Below.refl _ w).alloc (Nat.le_refl _) _).alloc (by simp) _
set_option maxHeartbeats 1000000 in
theorem containsAny_any (s chars : ByteArray) (w : World) (h2 : 2 ≤ chars.size) (hs : s.size < 4294967281) (hc : Asc chars.data.toList) (hcl : chars.size < 4294967281) (b : Bool) (hb : Lib.containsAny s.data.toList chars.data.toList = b) :
    Calls Tryz.prog 85 #[.string s, .string chars] w fun e w' => e = .returned (.bool b) ∧ Below w.heap.size w w' := by
  have HC := Lib.hid (indexAny_any s chars w h2 hs hc hcl)
  have HB := Lib.hid hb
  unfold Lib.containsAny at HB
  clear hb
  generalize Lib.indexAny s.data.toList chars.data.toList = v at *
  go_enter Tryz.func85, Tryz.ntmps85
  go_wp2_with fail
  refine HC.out.mono ?_
  rintro e w1 ⟨rfl, hb1⟩
  have HB1 := Lib.hid hb1
  clear hb1
  go_wp2
  go_ret
  exact ⟨ret_bool HB.out, HB1.out⟩
end Go.Proofs.YtempmmkdppelaaaGreatDoor
