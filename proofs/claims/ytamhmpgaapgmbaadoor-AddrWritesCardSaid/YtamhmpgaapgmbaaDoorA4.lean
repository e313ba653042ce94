import Derived.Test.YtamhmpgaapgmbaaDoorA3
namespace Go.Proofs.YtamhmpgaapgmbaaDoor
open Go.RowKit
def partO (ks : List Kd) (base : Nat) (l : List UInt8) : Option Nat := if madeL ks l then some (cap (numL base l)) else none
abbrev kHex : List Kd := [kDec, kSmall, kGreat]
def optE (o : Option Nat) : Ending := match o with
  | none => .returned (.tuple #[.int .u64 0, .bool false])
  | some n => .returned (.tuple #[.int .u64 n, .bool true])
theorem made_dig {ks : List Kd} {t : ByteArray} (h : madeL ks t.data.toList = true) (k : Nat) (hk : k < t.size) : anyK ks t[k].toNat = true := by
  unfold madeL at h
  rw [Bool.and_eq_true, List.all_eq_true] at h
  exact h.1 t[k] (Array.getElem_mem_toList _)
theorem made_ne {ks : List Kd} {t : ByteArray} (h : madeL ks t.data.toList = true) : t.size ≠ 0 := by
  intro e
  have : t.data.toList = [] := List.length_eq_zero_iff.1 (by simpa using e)
  rw [this] at h; cases h
theorem any1 {k : Kd} {b : Nat} (h : anyK [k] b = true) : k.1 ≤ b ∧ b ≤ k.2 := by
  unfold anyK kHas at h; simpa using h
theorem any3 {b : Nat} (h : anyK kHex b = true) : (48 ≤ b ∧ b ≤ 57) ∨ (97 ≤ b ∧ b ≤ 102) ∨ (65 ≤ b ∧ b ≤ 70) := by
  unfold anyK kHas at h
  simpa [kHex, kDec, kSmall, kGreat] using h
theorem kinds1 (w : World) (k : Kd) : Kinds (w.alloc (.cells #[.int .u8 k.1, .int .u8 k.2] 55)) w.heap.size [k] := by
  refine ⟨by simp, fun i hi => ?_⟩
  obtain rfl : i = 0 := by simp at hi; omega
  exact ⟨(Has.new w (.cells #[.int .u8 k.1, .int .u8 k.2] 55)).cell 0 rfl, (Has.new w (.cells #[.int .u8 k.1, .int .u8 k.2] 55)).cell 1 rfl⟩
theorem kinds3 (w : World) : Kinds (w.alloc (.cells #[.int .u8 48, .int .u8 57, .int .u8 97, .int .u8 102, .int .u8 65, .int .u8 70] 55)) w.heap.size kHex := by
  have hn := Has.new w (.cells #[.int .u8 48, .int .u8 57, .int .u8 97, .int .u8 102, .int .u8 65, .int .u8 70] 55)
  refine ⟨by simp, fun i hi => ?_⟩
  have hi' : i = 0 ∨ i = 1 ∨ i = 2 := by simp [kHex] at hi; omega
  rcases hi' with rfl | rfl | rfl
  · exact ⟨hn.cell 0 rfl, hn.cell 1 rfl⟩
  · exact ⟨hn.cell 2 rfl, hn.cell 3 rfl⟩
  · exact ⟨hn.cell 4 rfl, hn.cell 5 rfl⟩
/-- 'value' at kinds that say which digits there are -/
theorem value_any (ks : List Kd) (base : Nat) (t : ByteArray) (hmax : t.size ≤ 140737488355328) (g n cp : Nat) (hn : n = ks.length) (h8 : n ≤ 8) (w : World) (hG : Glob w) (hk : Kinds w g ks)
    (hp : madeL ks t.data.toList = true → ∀ w, Calls Tryd.prog 66 #[.string t, .int .i64 base, .int .i64 64] w fun e w' => PuRet (cap (numL base t.data.toList)) e ∧ w' = Lib.bytesWorld w 5 t) :
    Calls Tryd.prog 39 #[.string t, .int .i64 base, .slice (some ⟨g, 0, none⟩) n cp] w fun e w' => e = optE (partO ks base t.data.toList) ∧ Below w.heap.size w w' := by
  unfold partO
  rcases hm : madeL ks t.data.toList with _ | _
  · exact (value_no t hmax base g ks n cp hn h8 w hk hm).mono fun e w' ⟨he, hb⟩ => ⟨he, hb⟩
  · exact (value_yes t hmax base _ g ks n cp hn h8 w hG hk hm (hp hm)).mono fun e w' ⟨he, hb⟩ => ⟨he, hb⟩
theorem value_dec (t : ByteArray) (hmax : t.size ≤ 140737488355328) (w : World) (hG : Glob w) :
    Calls Tryd.prog 39 #[.string t, .int .i64 10, .slice (some ⟨w.heap.size, 0, none⟩) 1 1] (w.alloc (.cells #[.int .u8 48, .int .u8 57] 55)) fun e w' => e = optE (partO [kDec] 10 t.data.toList) ∧ Below w.heap.size w w' :=
  (value_any [kDec] 10 t hmax _ 1 1 rfl (by omega) _ (hG.to (bnew _ _)) (kinds1 w kDec) fun hm w => pu10 t (made_ne hm) hmax (fun k h => any1 (made_dig hm k h)) w).mono fun e w' ⟨he, hb⟩ => ⟨he, bel2 (bnew _ _) hb⟩
theorem value_oct (t : ByteArray) (hmax : t.size ≤ 140737488355328) (w : World) (hG : Glob w) :
    Calls Tryd.prog 39 #[.string t, .int .i64 8, .slice (some ⟨w.heap.size, 0, none⟩) 1 1] (w.alloc (.cells #[.int .u8 48, .int .u8 55] 55)) fun e w' => e = optE (partO [kOct] 8 t.data.toList) ∧ Below w.heap.size w w' :=
  (value_any [kOct] 8 t hmax _ 1 1 rfl (by omega) _ (hG.to (bnew _ _)) (kinds1 w kOct) fun hm w => pu8 t (made_ne hm) hmax (fun k h => any1 (made_dig hm k h)) w).mono fun e w' ⟨he, hb⟩ => ⟨he, bel2 (bnew _ _) hb⟩
theorem value_hex (t : ByteArray) (hmax : t.size ≤ 140737488355328) (w : World) (hG : Glob w) :
    Calls Tryd.prog 39 #[.string t, .int .i64 16, .slice (some ⟨w.heap.size, 0, none⟩) 3 3] (w.alloc (.cells #[.int .u8 48, .int .u8 57, .int .u8 97, .int .u8 102, .int .u8 65, .int .u8 70] 55)) fun e w' => e = optE (partO kHex 16 t.data.toList) ∧ Below w.heap.size w w' :=
  (value_any kHex 16 t hmax _ 3 3 rfl (by omega) _ (hG.to (bnew _ _)) (kinds3 w) fun hm w => pu16 t (made_ne hm) hmax (fun k h => any3 (made_dig hm k h)) w).mono fun e w' ⟨he, hb⟩ => ⟨he, bel2 (bnew _ _) hb⟩
theorem optE_cases (o : Option Nat) : ∃ n b, optE o = .returned (.tuple #[.int .u64 n, .bool b]) := by
  cases o with
  | none => exact ⟨_, _, rfl⟩
  | some n => exact ⟨_, _, rfl⟩
set_option maxHeartbeats 1000000 in
set_option maxRecDepth 100000 in
theorem hex_is (t : ByteArray) (hmax : t.size ≤ 140737488355328) (w : World) (hG : Glob w) :
    Calls Tryd.prog 38 #[.string t] w fun e w' => e = optE (partO kHex 16 t.data.toList) ∧ Below w.heap.size w w' := by
  have HC := Lib.hid (value_hex t hmax w hG)
  have c0 := hG.dec0
  have c1 := hG.dec1
  have c2 := hG.sm0
  have c3 := hG.sm1
  have c4 := hG.gr0
  have c5 := hG.gr1
  clear hG
  go_enter Tryd.func38, Tryd.ntmps38
  go_wp2_with fail
  refine HC.out.mono ?_
  rintro e w1 ⟨rfl, hb⟩
  have HB := Lib.hid hb
  clear hb
  obtain ⟨n, b, ho⟩ := optE_cases (partO kHex 16 t.data.toList)
  have HO := Lib.hid ho
  rw [ho]
  clear ho
  go_wp2_with fail
  go_ret2
  exact ⟨HO.out.symm, HB.out⟩
/-- what a part of version 4 is read as -/
def numO (l : List UInt8) : Option Nat :=
  if l = [48, 120] ∨ l = [48, 88] then some 0
  else if 2 < l.length ∧ l[0]? = some 48 ∧ (l[1]? = some 120 ∨ l[1]? = some 88) then partO kHex 16 (l.drop 2)
  else if 1 < l.length ∧ l[0]? = some 48 then partO [kOct] 8 l
  else partO [kDec] 10 l
end Go.Proofs.YtamhmpgaapgmbaaDoor
