/-
  strings.IndexRune, ContainsRune, IndexAny, ContainsAny at a set of ASCII letters: for every rune, for every text.
-/
import Derived.Test.YtempmmkdppelaaaGreatDoorPBM
import Derived.Test.YtempmmkdppelaaaGreatDoorShelfM
import Derived.Laws.RangeAny
import Derived.Laws.Runes
import Derived.Lib.TrimU
import Derived.Lib.FieldsU
import Derived.IntWalk
import Derived.WalkMore
namespace Go.Proofs.YtempmmkdppelaaaGreatDoor
open Go.RowKit
theorem idxB_none (l : List UInt8) (c : UInt8) (h : c ∉ l) : Lib.indexByte l c = -1 := by
  induction l with
  | nil => rfl
  | cons b r ih =>
    have hb : (b == c) = false := by
      rw [beq_eq_false_iff_ne]; intro e; exact h (by simp [e])
    have := ih (fun h' => h (List.mem_cons_of_mem _ h'))
    unfold Lib.indexByte
    rw [hb, this]; rfl
/-- a valid rune past ASCII is written in two to four bytes, all of which are past ASCII -/
theorem enc_high (r : Int) (h1 : 128 ≤ r) (hv : Utf8.valid r = true) : ∃ (E : ByteArray) (n : Nat), Utf8.encode r = E ∧ (n = 1 ∨ n = 2 ∨ n = 3) ∧ ∃ h : E.size = n + 1, 128 ≤ (E[n]'(by omega)).toNat := by
  have hc : ¬ r.toNat < 128 := by omega
  have last : ∀ k : Nat, 128 ≤ (UInt8.ofNat (0x80 + k % 64)).toNat := fun k => by rw [UInt8.toNat_ofNat']; omega
  by_cases h2 : r.toNat < 2048
  · refine ⟨⟨#[UInt8.ofNat (0xC0 + r.toNat / 64), UInt8.ofNat (0x80 + r.toNat % 64)]⟩, 1, ?_, .inl rfl, rfl, last _⟩
    unfold Utf8.encode; simp [hv, hc, h2]
  · by_cases h3 : r.toNat < 65536
    · refine ⟨⟨#[UInt8.ofNat (0xE0 + r.toNat / 4096), UInt8.ofNat (0x80 + r.toNat / 64 % 64), UInt8.ofNat (0x80 + r.toNat % 64)]⟩, 2, ?_, .inr (.inl rfl), rfl, last _⟩
      unfold Utf8.encode; simp [hv, hc, h2, h3]
    · refine ⟨⟨#[UInt8.ofNat (0xF0 + r.toNat / 262144), UInt8.ofNat (0x80 + r.toNat / 4096 % 64), UInt8.ofNat (0x80 + r.toNat / 64 % 64), UInt8.ofNat (0x80 + r.toNat % 64)]⟩, 3, ?_, .inr (.inr rfl), rfl, last _⟩
      unfold Utf8.encode; simp [hv, hc, h2, h3]
theorem bmem (s : ByteArray) (k : Nat) (h : k < s.size) : s[k] ∈ s.data.toList := List.mem_iff_getElem.2 ⟨k, by simpa using h, rfl⟩
theorem idxByte_no (t : ByteArray) (x : UInt8) (h : x ∉ t.data.toList) (W : World) : Calls Tryz.prog 79 #[.string t, .int .u8 x.toNat] W fun e w' => e = .returned (.int .i64 (-1)) ∧ W = w' :=
  (Tryz.strings_IndexByte t x.toNat W).mono fun e w' h' => ⟨by rw [h'.1, Int.toNat_natCast, show x.toNat.toUInt8 = x by simp, idxB_none _ _ h], h'.2.symm⟩
def Asc (l : List UInt8) : Prop := ∀ b ∈ l, b.toNat < 128
set_option maxHeartbeats 4000000 in
set_option maxRecDepth 100000 in
theorem indexRune_high (s : ByteArray) (hs : Asc s.data.toList) (hl : s.size ≤ 4294967296) (r : Int) (h1 : 128 ≤ r) (h2 : r ≤ 1114111) (h3 : r ≠ 65533) (w : World) :
    Calls Tryz.prog 55 #[.string s, .int .i32 r] w fun e w' => e = .returned (.int .i64 (-1)) ∧ Below w.heap.size w w' := by
  have i0 : ¬ (r < 128) := by omega
  have i1 : (0 : Int) ≤ r := by omega
  have i2 : (r == 65533) = false := by rw [beq_eq_false_iff_ne]; exact h3
  cases hv : Lib.validRune r with
  | false =>
    have HV := Lib.hid hv
    go_enter Tryz.func55, Tryz.ntmps55
    go_wp2_with fail
    refine (Tryz.utf8_ValidRune _ _).mono ?_
    rintro e w' ⟨rfl, hw⟩
    subst hw
    rw [HV.out]
    go_wp2
    go_ret
    exact ⟨rfl, Below.refl _ _⟩
  | true =>
    have HV := Lib.hid hv
    have hvu : Utf8.valid r = true := by
      unfold Lib.validRune at hv
      have := of_decide_eq_true hv
      unfold Utf8.valid
      simp only [Bool.or_eq_true, Bool.and_eq_true, decide_eq_true_eq]
      omega
    obtain ⟨E, n, hE, hn, hsz, hlast⟩ := enc_high r h1 hvu
    have HNI := Lib.hid (fun (k : Nat) (W : World) => idxByte_no (s.extract k s.size) E[n] (fun hm => by
      have : E[n] ∈ s.data.toList := by
        simp only [ByteArray.data_extract, Array.toList_extract, List.extract_eq_take_drop] at hm
        exact List.mem_of_mem_drop (List.mem_of_mem_take hm)
      have := hs _ this
      omega) W)
    have HNE := Lib.hid (fun (k : Nat) (h : k < s.size) => show ((s[k].toNat : Int) != (E[n].toNat : Int)) = true from by
      have := hs s[k] (bmem s k h)
      simp only [bne_iff_ne, ne_eq]; omega)
    clear hvu hv hs
    have hcv : ∀ W, (convert 21 9 (.int .i32 r)).run Tryz.prog W = .ok (.string E) W := fun W => by rw [run_convert_int_string W 21 9 .i32 r (by rw [Tryz.underlying21]; rfl) Tryz.underlying9, hE]
    have HE := Lib.hid hE
    clear hE
    have hmx : (s.size : Int) ≤ 4294967296 := by omega
    rcases hn with rfl | rfl | rfl
    · go_enter Tryz.func55, Tryz.ntmps55
      go_wp2_with fail
      refine (Tryz.utf8_ValidRune _ _).mono ?_
      rintro e w' ⟨rfl, hw⟩
      subst hw
      rw [HV.out]
      go_wp2_with fail
      go_step3
      go_wp2_with fail
      go_loopw [9] (fun i wr => i = .int .i64 1 ∧ wr = w') (fun _ _ => 0)
      case atStart => exact ⟨rfl, rfl⟩
      case round =>
        obtain ⟨rfl, rfl⟩ := hrel
        by_cases hlt : 1 < s.size
        · have j1 : (1 : Int) < (s.size : Int) := by omega
          have j2 := HNE.out 1 hlt
          have j3 : (2 : Int) ≤ (s.size : Int) := by omega
          have j4 : 2 ≤ s.size := by omega
          go_wp2_with fail
          go_step3
          go_wp2_with fail
          go_quiet (fail)
          go_wp2_with fail
          have HBw := Lib.hid (below_dn (Below.refl wr.heap.size wr) nq)
          generalize wr.drewN nq = w2 at *
          go_quiet ((go_at_call 79; exact Calls.quiet_of_same ((HNI.out 2 _).mono fun _ _ h => ⟨h.1, h.2.symm⟩)))
          go_wp2
          simp (zetaDelta := true) only [Exit.inBlock, Exit.then, Exit.noGoto_ret]
          go_ret
          exact ⟨rfl, below_dn HBw.out _⟩
        · have j1 : ¬ (1 : Int) < (s.size : Int) := by omega
          go_wp2
          (try rw [Exit.noGoto_ret])
          go_ret
          exact ⟨rfl, Below.refl _ _⟩
    · go_enter Tryz.func55, Tryz.ntmps55
      go_wp2_with fail
      refine (Tryz.utf8_ValidRune _ _).mono ?_
      rintro e w' ⟨rfl, hw⟩
      subst hw
      rw [HV.out]
      go_wp2_with fail
      go_step3
      go_wp2_with fail
      go_loopw [9] (fun i wr => i = .int .i64 2 ∧ wr = w') (fun _ _ => 0)
      case atStart => exact ⟨rfl, rfl⟩
      case round =>
        obtain ⟨rfl, rfl⟩ := hrel
        by_cases hlt : 2 < s.size
        · have j1 : (2 : Int) < (s.size : Int) := by omega
          have j2 := HNE.out 2 hlt
          have j3 : (3 : Int) ≤ (s.size : Int) := by omega
          have j4 : 3 ≤ s.size := by omega
          go_wp2_with fail
          go_step3
          go_wp2_with fail
          go_quiet (fail)
          go_wp2_with fail
          have HBw := Lib.hid (below_dn (Below.refl wr.heap.size wr) nq)
          generalize wr.drewN nq = w2 at *
          go_quiet ((go_at_call 79; exact Calls.quiet_of_same ((HNI.out 3 _).mono fun _ _ h => ⟨h.1, h.2.symm⟩)))
          go_wp2
          simp (zetaDelta := true) only [Exit.inBlock, Exit.then, Exit.noGoto_ret]
          go_ret
          exact ⟨rfl, below_dn HBw.out _⟩
        · have j1 : ¬ (2 : Int) < (s.size : Int) := by omega
          go_wp2
          (try rw [Exit.noGoto_ret])
          go_ret
          exact ⟨rfl, Below.refl _ _⟩
    · go_enter Tryz.func55, Tryz.ntmps55
      go_wp2_with fail
      refine (Tryz.utf8_ValidRune _ _).mono ?_
      rintro e w' ⟨rfl, hw⟩
      subst hw
      rw [HV.out]
      go_wp2_with fail
      go_step3
      go_wp2_with fail
      go_loopw [9] (fun i wr => i = .int .i64 3 ∧ wr = w') (fun _ _ => 0)
      case atStart => exact ⟨rfl, rfl⟩
      case round =>
        obtain ⟨rfl, rfl⟩ := hrel
        by_cases hlt : 3 < s.size
        · have j1 : (3 : Int) < (s.size : Int) := by omega
          have j2 := HNE.out 3 hlt
          have j3 : (4 : Int) ≤ (s.size : Int) := by omega
          have j4 : 4 ≤ s.size := by omega
          go_wp2_with fail
          go_step3
          go_wp2_with fail
          go_quiet (fail)
          go_wp2_with fail
          have HBw := Lib.hid (below_dn (Below.refl wr.heap.size wr) nq)
          generalize wr.drewN nq = w2 at *
          go_quiet ((go_at_call 79; exact Calls.quiet_of_same ((HNI.out 4 _).mono fun _ _ h => ⟨h.1, h.2.symm⟩)))
          go_wp2
          simp (zetaDelta := true) only [Exit.inBlock, Exit.then, Exit.noGoto_ret]
          go_ret
          exact ⟨rfl, below_dn HBw.out _⟩
        · have j1 : ¬ (3 : Int) < (s.size : Int) := by omega
          go_wp2
          (try rw [Exit.noGoto_ret])
          go_ret
          exact ⟨rfl, Below.refl _ _⟩
end Go.Proofs.YtempmmkdppelaaaGreatDoor
