/-
  The contracts of package pct for the case of ASCII letters: Lower, Upper and Same answer what the plain functions of the mathematics text answer, for every text of a length that fits an int; nothing that was there is changed.
-/
import Derived.Test.YtempmmkdppelaaaGreatDoorIYM
import Derived.Test.YtempmmkdppelaaaGreatDoorPBM
import Derived.WalkSpells
import Derived.Deep.QuietTactic
import Derived.BigQuiet
namespace Go.Proofs.YtempmmkdppelaaaGreatDoor
open Go.RowKit M
theorem low_nat (b : UInt8) : (low b).toNat = if 65 ≤ b.toNat ∧ b.toNat ≤ 90 then b.toNat + 32 else b.toNat := by
  unfold low
  split
  · have := b.toNat_lt; rw [UInt8.toNat_ofNat']; omega
  · rfl
theorem upp_nat (b : UInt8) : (upp b).toNat = if 97 ≤ b.toNat ∧ b.toNat ≤ 122 then b.toNat - 32 else b.toNat := by
  unfold upp
  split
  · have := b.toNat_lt; rw [UInt8.toNat_ofNat']; omega
  · rfl
set_option maxHeartbeats 400000 in
theorem small_any (b : UInt8) (w : World) : Calls Tryz.prog 56 #[.int .u8 b.toNat] w fun e w' => e = .returned (.int .u8 (low b).toNat) ∧ w = w' := by
  have HL := Lib.hid (low_nat b)
  have h1 := b.toNat_lt
  by_cases ha : 65 ≤ b.toNat
  · by_cases hb : b.toNat ≤ 90
    · go_enter Tryz.func56, Tryz.ntmps56
      go_wp2
      go_ret
      exact ⟨ret_int (by rw [HL.out, if_pos ⟨ha, hb⟩]; rfl), rfl⟩
    · go_enter Tryz.func56, Tryz.ntmps56
      go_wp2
      go_ret
      exact ⟨ret_int (by rw [HL.out, if_neg (by omega)]), rfl⟩
  · go_enter Tryz.func56, Tryz.ntmps56
    go_wp2
    go_ret
    exact ⟨ret_int (by rw [HL.out, if_neg (by omega)]), rfl⟩
/-- block b is a row of n bytes' cells whose first ones are l (only the place behind the row bears the run-time's mark) -/
def RowIs (w : World) (b n : Nat) (l : List UInt8) : Prop :=
  ∃ C : Array Value, w.heap[b]? = some (.cells C 5 (C.size, C.size + 1)) ∧ C.size = n ∧ ∀ j (h : j < l.length), C[j]? = some (.int .u8 ((l[j]'h).toNat : Int))
theorem RowIs.le {w : World} {b n : Nat} {l : List UInt8} (h : RowIs w b n l) : l.length ≤ n := by
  obtain ⟨C, _, hs, hc⟩ := h
  rcases Nat.lt_or_ge n l.length with hlt | hge
  · have := hc n hlt
    rw [Array.getElem?_eq_none (by omega)] at this
    cases this
  · exact hge
theorem RowIs.cell {w : World} {b n : Nat} {l : List UInt8} (h : RowIs w b n l) (j : Nat) (hj : j < l.length) : w.cell? ⟨b, j, none⟩ = some (.int .u8 ((l[j]'hj).toNat : Int)) := by
  obtain ⟨C, hb, _, hc⟩ := h
  rw [cell_of_row _ _ j _ _ _ hb]; exact hc j hj
theorem RowIs.free {w : World} {b n : Nat} {l : List UInt8} (h : RowIs w b n l) (j : Nat) (hj : j < l.length) : w.frozen? ⟨b, j, none⟩ = false := by
  have hle := h.le
  obtain ⟨C, hb, hs, hc⟩ := h
  simp [World.frozen?, hb]; omega
theorem RowIs.lt {w : World} {b n : Nat} {l : List UInt8} (h : RowIs w b n l) : b < w.heap.size := by
  obtain ⟨C, hb, _, _⟩ := h
  exact lt_of_block hb
theorem RowIs.set_ {w : World} {b n : Nat} {l : List UInt8} (h : RowIs w b n l) (k : Nat) (hk : k < l.length) (u : UInt8) : RowIs (w.setCell ⟨b, k, none⟩ (.int .u8 (u.toNat : Int))) b n (l.set k u) := by
  have hle := h.le
  obtain ⟨C, hb, hs, hc⟩ := h
  refine ⟨C.setIfInBounds k (.int .u8 (u.toNat : Int)), ?_, by simpa using hs, fun j hj => ?_⟩
  · simp [World.setCell, Array.getElem?_modify, hb]
  · rw [Array.getElem?_setIfInBounds]
    simp only [List.length_set] at hj
    by_cases e : k = j
    · subst e
      rw [if_pos rfl, if_pos (by omega)]; simp
    · rw [if_neg e, hc j hj, List.getElem_set_ne e]
theorem RowIs.new (w : World) (s : ByteArray) (cap : Nat) : RowIs (w.drew.alloc (.cells (bytesRow s cap) 5 ((bytesRow s cap).size, (bytesRow s cap).size + 1))) w.heap.size (s.size + (cap - s.size)) s.data.toList := by
  refine ⟨bytesRow s cap, heap_alloc_new w.drew _, by simp [bytesRow], fun j hj => ?_⟩
  have hj' : j < s.data.size := by simpa using hj
  unfold bytesRow
  rw [Array.getElem?_append_left (by simpa using hj')]
  rw [Array.getElem?_map, Array.getElem?_eq_getElem hj']
  simp
theorem set_step {f : UInt8 → UInt8} (l : List UInt8) (k : Nat) (h : k < l.length) : ((l.take k).map f ++ l.drop k).set k (f l[k]) = (l.take (k + 1)).map f ++ l.drop (k + 1) := by
  rw [List.set_append_right _ _ (by simp; omega)]
  rw [take_snoc l k h]
  have : (k - (List.map f (List.take k l)).length) = 0 := by simp; omega
  rw [this, List.drop_eq_getElem_cons h, List.set_cons_zero, List.map_append, List.append_assoc]
  rfl
theorem mix_get {f : UInt8 → UInt8} (l : List UInt8) (k : Nat) (h : k < l.length) : ∃ h' : k < ((l.take k).map f ++ l.drop k).length, ((l.take k).map f ++ l.drop k)[k] = l[k] := by
  refine ⟨by simp; omega, ?_⟩
  rw [List.getElem_append_right (by simp; omega)]
  simp [Nat.min_eq_left (Nat.le_of_lt h)]
theorem back_row {P : Program} {w : World} {b n : Nat} {l : List UInt8} (h : RowIs w b n l) (cap m : Nat) (hm : m = l.length) (hs : P.underlying 73 = some (.slice 5)) (he : P.underlying 5 = some (.int .u8)) (hd : P.underlying 9 = some .string) :
    (convert 73 9 (.slice (some ⟨b, 0, none⟩) m cap)).run P w = .ok (.string ⟨l.toArray⟩) w := by
  subst hm
  exact run_convert_bytes_back w 73 9 5 ⟨b, 0, none⟩ cap l hs he hd (fun j hj => by
    have e : (⟨b, 0, none⟩ : Addr).add j = ⟨b, j, none⟩ := by unfold Addr.add; split <;> simp_all
    rw [e]; exact h.cell j hj)
set_option maxHeartbeats 1000000 in
theorem lower_any (s : ByteArray) (hs : s.size ≤ maxLen) (w : World) :
    Calls Tryz.prog 35 #[.string s] w fun e w' => e = .returned (.string ⟨(s.data.toList.map low).toArray⟩) ∧ Below w.heap.size w w' := by
  unfold maxLen at hs
  have kc := fun (w : World) => run_bytes_of_string (P := Tryz.prog) w 9 73 5 s Tryz.underlying9 Tryz.underlying73 Tryz.underlying5
  have HB := Lib.hid (fun cap => RowIs.new w s cap)
  go_enter Tryz.func35, Tryz.ntmps35
  go_wp2
  go_loopw [4, 9] (fun x i wr => ∃ k : Nat, k ≤ s.size ∧ i = .int .i64 k ∧ RowIs wr w.heap.size (s.size + (grownCap w s.size 0 5 - s.size)) ((s.data.toList.take k).map low ++ s.data.toList.drop k) ∧ Below w.heap.size w wr) (fun x i _ => s.size - (intOf i).toNat)
  case atStart =>
    exact ⟨0, by omega, rfl, HB.out (grownCap w s.size 0 5), (((Below.refl _ _).alloc (Nat.le_refl _) _).drew)⟩
  case round =>
    obtain ⟨k, hk, rfl, hrow, hbel⟩ := hrel
    by_cases hlt : k < s.size
    · have hkl : k < s.data.toList.length := by simpa using hlt
      obtain ⟨hm, hmg⟩ := mix_get (f := low) s.data.toList k hkl
      have hc := hrow.cell k hm
      have hf := hrow.free k hm
      rw [hmg] at hc
      have HS := Lib.hid (set_step (f := low) s.data.toList k hkl)
      have HR := Lib.hid (hrow.set_ k hm (low s.data.toList[k]))
      generalize s.data.toList[k] = u at *
      clear hmg hrow
      go_wp2_with (go_at_call 56; refine (small_any u _).mono ?_; rintro e w1 ⟨rfl, rfl⟩)
      go_roundw
      case rel => exact ⟨k + 1, by omega, by go_num, by rw [← HS.out]; exact HR.out, hbel.setCell (p := ⟨w.heap.size, k, none⟩) (Nat.le_refl _) _⟩
      case measure => simp [intOf]; omega
    · obtain rfl : k = s.size := by omega
      have e1 : (s.data.toList.take s.size).map low ++ s.data.toList.drop s.size = s.data.toList.map low := by
        rw [List.take_of_length_le (by simp), List.drop_of_length_le (by simp), List.append_nil]
      rw [e1] at hrow
      have kb := back_row (P := Tryz.prog) hrow (grownCap w s.size 0 5) s.size (by simp) Tryz.underlying73 Tryz.underlying5 Tryz.underlying9
      clear e1 hrow
      go_wp2
      go_ret
      exact ⟨rfl, hbel⟩
theorem upp_yes (u : UInt8) (h1 : 97 ≤ u.toNat) (h2 : u.toNat ≤ 122) : ((upp u).toNat : Int) = (u.toNat : Int) - 32 := by rw [upp_nat, if_pos ⟨h1, h2⟩]; omega
theorem upp_no (u : UInt8) (h : ¬ (97 ≤ u.toNat ∧ u.toNat ≤ 122)) : upp u = u := by unfold upp; rw [if_neg h]
set_option maxHeartbeats 1000000 in
theorem upper_any (s : ByteArray) (hs : s.size ≤ maxLen) (w : World) :
    Calls Tryz.prog 30 #[.string s] w fun e w' => e = .returned (.string ⟨(s.data.toList.map upp).toArray⟩) ∧ Below w.heap.size w w' := by
  unfold maxLen at hs
  have kc := fun (w : World) => run_bytes_of_string (P := Tryz.prog) w 9 73 5 s Tryz.underlying9 Tryz.underlying73 Tryz.underlying5
  have HB := Lib.hid (fun cap => RowIs.new w s cap)
  go_enter Tryz.func30, Tryz.ntmps30
  go_wp2
  go_loopw [4, 9] (fun x i wr => ∃ k : Nat, k ≤ s.size ∧ i = .int .i64 k ∧ RowIs wr w.heap.size (s.size + (grownCap w s.size 0 5 - s.size)) ((s.data.toList.take k).map upp ++ s.data.toList.drop k) ∧ Below w.heap.size w wr) (fun x i _ => s.size - (intOf i).toNat)
  case atStart =>
    exact ⟨0, by omega, rfl, HB.out (grownCap w s.size 0 5), (((Below.refl _ _).alloc (Nat.le_refl _) _).drew)⟩
  case round =>
    obtain ⟨k, hk, rfl, hrow, hbel⟩ := hrel
    by_cases hlt : k < s.size
    · have hkl : k < s.data.toList.length := by simpa using hlt
      obtain ⟨hm, hmg⟩ := mix_get (f := upp) s.data.toList k hkl
      have hc := hrow.cell k hm
      have hf := hrow.free k hm
      rw [hmg] at hc
      have HS := Lib.hid (set_step (f := upp) s.data.toList k hkl)
      have HR := Lib.hid (hrow.set_ k hm (upp s.data.toList[k]))
      have HG := Lib.hid (show ∀ L : List UInt8, ∀ h : k < L.length, L[k] = s.data.toList[k] → L.set k (s.data.toList[k]) = L from fun L h e => by rw [← e]; exact List.set_getElem_self h)
      have HH := Lib.hid hmg
      have HW := Lib.hid hrow
      generalize s.data.toList[k] = u at *
      clear hmg hrow
      have hu := u.toNat_lt
      by_cases h1 : 97 ≤ u.toNat
      · by_cases h2 : u.toNat ≤ 122
        · have HU := Lib.hid (upp_yes u h1 h2)
          go_wp2
          go_roundw
          case rel => exact ⟨k + 1, by omega, by go_num, by rw [← HS.out, ← HU.out]; exact HR.out, hbel.setCell (p := ⟨w.heap.size, k, none⟩) (Nat.le_refl _) _⟩
          case measure => simp [intOf]; omega
        · have HU := Lib.hid (upp_no u (by omega))
          go_wp2
          go_roundw
          case rel => exact ⟨k + 1, by omega, by go_num, by rw [← HS.out, HU.out, HG.out _ hm HH.out]; exact HW.out, hbel⟩
          case measure => simp [intOf]; omega
      · have HU := Lib.hid (upp_no u (by omega))
        go_wp2
        go_roundw
        case rel => exact ⟨k + 1, by omega, by go_num, by rw [← HS.out, HU.out, HG.out _ hm HH.out]; exact HW.out, hbel⟩
        case measure => simp [intOf]; omega
    · obtain rfl : k = s.size := by omega
      have e1 : (s.data.toList.take s.size).map upp ++ s.data.toList.drop s.size = s.data.toList.map upp := by
        rw [List.take_of_length_le (by simp), List.drop_of_length_le (by simp), List.append_nil]
      rw [e1] at hrow
      have kb := back_row (P := Tryz.prog) hrow (grownCap w s.size 0 5) s.size (by simp) Tryz.underlying73 Tryz.underlying5 Tryz.underlying9
      clear e1 hrow
      go_wp2
      go_ret
      exact ⟨rfl, hbel⟩
theorem low_ne_nat {u v : UInt8} (h : low u = low v) : (((low u).toNat : Int) != ((low v).toNat : Int)) = false := by rw [h]; simp
theorem low_ne_nat' {u v : UInt8} (h : ¬ low u = low v) : (((low u).toNat : Int) != ((low v).toNat : Int)) = true := by
  rw [bne_iff_ne]; intro e; exact h (UInt8.toNat_inj.1 (by omega))
theorem small_q (b : UInt8) (w : World) : Calls Tryz.prog 56 #[.int .u8 b.toNat] w fun e w' => e = .returned (.int .u8 (low b).toNat) ∧ w' = w := (small_any b w).mono fun _ _ ⟨h, e⟩ => ⟨h, e.symm⟩
def sameB (a b : List UInt8) : Bool := a.map low == b.map low
theorem same_step {s t : ByteArray} (k : Nat) (h1 : k < s.size) (h2 : k < t.size) (hk : (s.data.toList.take k).map low = (t.data.toList.take k).map low) (he : low s[k] = low t[k]) :
    (s.data.toList.take (k + 1)).map low = (t.data.toList.take (k + 1)).map low := by
  rw [take_snoc _ _ (by simpa using h1), take_snoc _ _ (by simpa using h2), List.map_append, List.map_append, hk]
  have : low s.data.toList[k] = low t.data.toList[k] := he
  simp only [List.map_cons, List.map_nil, this]
theorem same_stop {s t : ByteArray} (k : Nat) (h1 : k < s.size) (h2 : k < t.size) (he : ¬ low s[k] = low t[k]) : sameB s.data.toList t.data.toList = false := by
  unfold sameB
  rw [beq_eq_false_iff_ne]
  intro h
  have h3 := congrArg (fun l => l[k]?) h
  simp only [List.getElem?_map] at h3
  rw [List.getElem?_eq_getElem (by simpa using h1), List.getElem?_eq_getElem (by simpa using h2)] at h3
  simp only [Option.map_some, Option.some.injEq] at h3
  exact he h3
theorem same_size {s t : ByteArray} (h : ¬ s.size = t.size) : sameB s.data.toList t.data.toList = false := by
  unfold sameB
  rw [beq_eq_false_iff_ne]
  intro h3
  have := congrArg List.length h3
  simp at this
  exact h this
set_option maxHeartbeats 1000000 in
theorem same_any (s t : ByteArray) (hs : s.size ≤ maxLen) (_ht : t.size ≤ maxLen) (w : World) :
    Calls Tryz.prog 100 #[.string s, .string t] w fun e w' => e = .returned (.bool (sameB s.data.toList t.data.toList)) ∧ Below w.heap.size w w' := by
  unfold maxLen at hs _ht
  by_cases hst : s.size = t.size
  · have hle : s.size ≤ t.size := by omega
    have hge : t.size ≤ s.size := by omega
    have hne : ((s.size : Int) != (t.size : Int)) = false := by rw [hst]; simp
    have HST := Lib.hid hst
    clear hst
    go_enter Tryz.func100, Tryz.ntmps100
    go_wp2
    go_loopw [5, 13] (fun x i wr => ∃ k : Nat, k ≤ s.size ∧ i = .int .i64 k ∧ Hid ((s.data.toList.take k).map low = (t.data.toList.take k).map low) ∧ Below w.heap.size w wr) (fun x i _ => s.size - (intOf i).toNat)
    case atStart => exact ⟨0, by omega, rfl, Lib.hid rfl, Below.refl _ _⟩
    case round =>
      obtain ⟨k, hk, rfl, HK, hbel⟩ := hrel
      by_cases hlt : k < s.size
      · have hlt2 : k < t.size := by omega
        by_cases hl : low s[k] = low t[k]
        · have h0 := low_ne_nat hl
          have HS := Lib.hid (same_step k hlt hlt2 HK.out hl)
          clear hl
          go_wp2
          go_quiet ((go_at_call 56; exact Calls.quiet_of_same (small_q _ _)))
          go_wp2
          go_roundw
          case rel => exact ⟨k + 1, by omega, by go_num, HS, below_dn hbel _⟩
          case measure => simp [intOf]; omega
        · have h0 := low_ne_nat' hl
          have HS := Lib.hid (same_stop k hlt hlt2 hl)
          clear hl
          go_wp2
          go_quiet ((go_at_call 56; exact Calls.quiet_of_same (small_q _ _)))
          go_wp2
          go_ret
          exact ⟨ret_bool HS.out.symm, below_dn hbel _⟩
      · have HS := Lib.hid (show sameB s.data.toList t.data.toList = true by
          have h := HK.out
          rw [List.take_of_length_le (by simp; omega), List.take_of_length_le (by simp; omega)] at h
          unfold sameB; rw [h]; simp)
        go_wp2
        go_ret
        exact ⟨ret_bool HS.out.symm, hbel⟩
  · have hne : ((s.size : Int) != (t.size : Int)) = true := by rw [bne_iff_ne]; omega
    have HS := Lib.hid (same_size hst)
    clear hst
    go_enter Tryz.func100, Tryz.ntmps100
    go_wp2
    go_ret
    exact ⟨ret_bool HS.out.symm, Below.refl _ _⟩
end Go.Proofs.YtempmmkdppelaaaGreatDoor
