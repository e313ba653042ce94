import Derived.Test.YtflddokngplgiaaDoorA3M
namespace Go.Proofs.YtflddokngplgiaaDoor
open Go.RowKit
def partO (ks : List Kd) (base : Nat) (l : List UInt8) : Option Nat := if madeL ks l then some (cap (numL base l)) else none
abbrev kHex : List Kd := [kDec, kSmall, kGreat]
def optE (o : Option Nat) : Ending := match o with
  | none => .returned (.tuple #[.int .u64 0, .bool false])
  | some n => .returned (.tuple #[.int .u64 n, .bool true])
theorem made_dig {ks : List Kd} {t : ByteArray} (h : madeL ks t.data.toList = true) (k : Nat) (hk : k < t.size) : anyK ks t[k].toNat = true := by
  unfold madeL at h
  rw [Bool.and_eq_true, List.all_eq_true] at h
  exact h.1 t[k] (Array.getElem_mem_toList _)
theorem made_ne {ks : List Kd} {t : ByteArray} (h : madeL ks t.data.toList = true) : t.size ≠ 0 := by
  intro e
  have : t.data.toList = [] := List.length_eq_zero_iff.1 (by simpa using e)
  rw [this] at h; cases h
theorem any1 {k : Kd} {b : Nat} (h : anyK [k] b = true) : k.1 ≤ b ∧ b ≤ k.2 := by
  unfold anyK kHas at h; simpa using h
theorem any3 {b : Nat} (h : anyK kHex b = true) : (48 ≤ b ∧ b ≤ 57) ∨ (97 ≤ b ∧ b ≤ 102) ∨ (65 ≤ b ∧ b ≤ 70) := by
  unfold anyK kHas at h
  simpa [kHex, kDec, kSmall, kGreat] using h
theorem kinds1 (w : World) (k : Kd) : Kinds (w.alloc (.cells #[.int .u8 k.1, .int .u8 k.2] 55)) w.heap.size [k] := by
  refine ⟨by simp, fun i hi => ?_⟩
  obtain rfl : i = 0 := by simp at hi; omega
  exact ⟨(Has.new w (.cells #[.int .u8 k.1, .int .u8 k.2] 55)).cell 0 rfl, (Has.new w (.cells #[.int .u8 k.1, .int .u8 k.2] 55)).cell 1 rfl⟩
theorem kinds3 (w : World) : Kinds (w.alloc (.cells #[.int .u8 48, .int .u8 57, .int .u8 97, .int .u8 102, .int .u8 65, .int .u8 70] 55)) w.heap.size kHex := by
  have hn := Has.new w (.cells #[.int .u8 48, .int .u8 57, .int .u8 97, .int .u8 102, .int .u8 65, .int .u8 70] 55)
  refine ⟨by simp, fun i hi => ?_⟩
  have hi' : i = 0 ∨ i = 1 ∨ i = 2 := by simp [kHex] at hi; omega
  rcases hi' with rfl | rfl | rfl
  · exact ⟨hn.cell 0 rfl, hn.cell 1 rfl⟩
  · exact ⟨hn.cell 2 rfl, hn.cell 3 rfl⟩
  · exact ⟨hn.cell 4 rfl, hn.cell 5 rfl⟩
/-- 'value' at kinds that say which digits there are -/
theorem value_any (ks : List Kd) (base : Nat) (t : ByteArray) (hmax : t.size ≤ 140737488355328) (g n cp : Nat) (hn : n = ks.length) (h8 : n ≤ 8) (w : World) (hG : Glob w) (hk : Kinds w g ks)
    (hp : madeL ks t.data.toList = true → ∀ w, Calls Tryd.prog 66 #[.string t, .int .i64 base, .int .i64 64] w fun e w' => PuRet (cap (numL base t.data.toList)) e ∧ w' = Lib.bytesWorld w 5 t) :
    Calls Tryd.prog 39 #[.string t, .int .i64 base, .slice (some ⟨g, 0, none⟩) n cp] w fun e w' => e = optE (partO ks base t.data.toList) ∧ Below w.heap.size w w' := by
  unfold partO
  rcases hm : madeL ks t.data.toList with _ | _
  · exact (value_no t hmax base g ks n cp hn h8 w hk hm).mono fun e w' ⟨he, hb⟩ => ⟨he, hb⟩
  · exact (value_yes t hmax base _ g ks n cp hn h8 w hG hk hm (hp hm)).mono fun e w' ⟨he, hb⟩ => ⟨he, hb⟩
theorem value_dec (t : ByteArray) (hmax : t.size ≤ 140737488355328) (w : World) (hG : Glob w) :
    Calls Tryd.prog 39 #[.string t, .int .i64 10, .slice (some ⟨w.heap.size, 0, none⟩) 1 1] (w.alloc (.cells #[.int .u8 48, .int .u8 57] 55)) fun e w' => e = optE (partO [kDec] 10 t.data.toList) ∧ Below w.heap.size w w' :=
  (value_any [kDec] 10 t hmax _ 1 1 rfl (by omega) _ (hG.to (bnew _ _)) (kinds1 w kDec) fun hm w => pu10 t (made_ne hm) hmax (fun k h => any1 (made_dig hm k h)) w).mono fun e w' ⟨he, hb⟩ => ⟨he, bel2 (bnew _ _) hb⟩
theorem value_oct (t : ByteArray) (hmax : t.size ≤ 140737488355328) (w : World) (hG : Glob w) :
    Calls Tryd.prog 39 #[.string t, .int .i64 8, .slice (some ⟨w.heap.size, 0, none⟩) 1 1] (w.alloc (.cells #[.int .u8 48, .int .u8 55] 55)) fun e w' => e = optE (partO [kOct] 8 t.data.toList) ∧ Below w.heap.size w w' :=
  (value_any [kOct] 8 t hmax _ 1 1 rfl (by omega) _ (hG.to (bnew _ _)) (kinds1 w kOct) fun hm w => pu8 t (made_ne hm) hmax (fun k h => any1 (made_dig hm k h)) w).mono fun e w' ⟨he, hb⟩ => ⟨he, bel2 (bnew _ _) hb⟩
theorem value_hex (t : ByteArray) (hmax : t.size ≤ 140737488355328) (w : World) (hG : Glob w) :
    Calls Tryd.prog 39 #[.string t, .int .i64 16, .slice (some ⟨w.heap.size, 0, none⟩) 3 3] (w.alloc (.cells #[.int .u8 48, .int .u8 57, .int .u8 97, .int .u8 102, .int .u8 65, .int .u8 70] 55)) fun e w' => e = optE (partO kHex 16 t.data.toList) ∧ Below w.heap.size w w' :=
  (value_any kHex 16 t hmax _ 3 3 rfl (by omega) _ (hG.to (bnew _ _)) (kinds3 w) fun hm w => pu16 t (made_ne hm) hmax (fun k h => any3 (made_dig hm k h)) w).mono fun e w' ⟨he, hb⟩ => ⟨he, bel2 (bnew _ _) hb⟩
theorem optE_cases (o : Option Nat) : ∃ n b, optE o = .returned (.tuple #[.int .u64 n, .bool b]) := by
  cases o with
  | none => exact ⟨_, _, rfl⟩
  | some n => exact ⟨_, _, rfl⟩
set_option maxHeartbeats 1000000 in
set_option maxRecDepth 100000 in
theorem hex_is (t : ByteArray) (hmax : t.size ≤ 140737488355328) (w : World) (hG : Glob w) :
    Calls Tryd.prog 38 #[.string t] w fun e w' => e = optE (partO kHex 16 t.data.toList) ∧ Below w.heap.size w w' := by
  have HC := Lib.hid (value_hex t hmax w hG)
  have c0 := hG.dec0
  have c1 := hG.dec1
  have c2 := hG.sm0
  have c3 := hG.sm1
  have c4 := hG.gr0
  have c5 := hG.gr1
  clear hG
  go_enter Tryd.func38, Tryd.ntmps38
  go_wp2_with fail
  refine HC.out.mono ?_
  rintro e w1 ⟨rfl, hb⟩
  have HB := Lib.hid hb
  clear hb
  obtain ⟨n, b, ho⟩ := optE_cases (partO kHex 16 t.data.toList)
  have HO := Lib.hid ho
  rw [ho]
  clear ho
  go_wp2_with fail
  go_ret2
  exact ⟨HO.out.symm, HB.out⟩
/-- what a part of version 4 is read as -/
def numO (l : List UInt8) : Option Nat :=
  if l = [48, 120] ∨ l = [48, 88] then some 0
  else if 2 < l.length ∧ l[0]? = some 48 ∧ (l[1]? = some 120 ∨ l[1]? = some 88) then partO kHex 16 (l.drop 2)
  else if 1 < l.length ∧ l[0]? = some 48 then partO [kOct] 8 l
  else partO [kDec] 10 l
end Go.Proofs.YtflddokngplgiaaDoor
namespace Go.Proofs.YtflddokngplgiaaDoor
open Go.RowKit
theorem bq_f {l m : List UInt8} (h : ¬ l = m) : (l == m) = false := by simpa using h
set_option maxHeartbeats 1000000 in
theorem num_x (t : ByteArray) (w : World) (e1 : t.toList = [48, 120]) :
    Calls Tryd.prog 25 #[.string t] w fun e w' => e = optE (some 0) ∧ Below w.heap.size w w' := by
  go_enter Tryd.func25, Tryd.ntmps25
  go_wp2_with fail
  go_ret2
  exact ⟨rfl, Below.refl _ _⟩
set_option maxHeartbeats 1000000 in
theorem num_X (t : ByteArray) (w : World) (e1 : ¬ t.toList = [48, 120]) (e2 : t.toList = [48, 88]) :
    Calls Tryd.prog 25 #[.string t] w fun e w' => e = optE (some 0) ∧ Below w.heap.size w w' := by
  have f1 := bq_f e1
  clear e1
  go_enter Tryd.func25, Tryd.ntmps25
  go_wp2_with fail
  go_ret2
  exact ⟨rfl, Below.refl _ _⟩
set_option maxHeartbeats 1000000 in
set_option maxRecDepth 100000 in
theorem num_h1 (t : ByteArray) (hmax : t.size ≤ 140737488355328) (w : World) (hG : Glob w) (e1 : ¬ t.toList = [48, 120]) (e2 : ¬ t.toList = [48, 88]) (h2 : 2 < t.size) (h0 : t[0].toNat = 48) (h1 : t[1].toNat = 120) :
    Calls Tryd.prog 25 #[.string t] w fun e w' => e = optE (partO kHex 16 (t.extract 2 t.size).data.toList) ∧ Below w.heap.size w w' := by
  have f1 := bq_f e1
  have f2 := bq_f e2
  clear e2
  have g0 : (t[0].toNat : Int) = 48 := by omega
  have g1 : (t[1].toNat : Int) = 120 := by omega
  have g2 : (2 : Int) < (t.size : Int) := by omega
  clear h0 h1
  have c0 := hG.dec0
  have c1 := hG.dec1
  have c2 := hG.oct0
  have c3 := hG.oct1
  have HC := Lib.hid (hex_is (t.extract 2 t.size) (by rw [ByteArray.size_extract]; omega) w hG)
  clear hG
  go_enter Tryd.func25, Tryd.ntmps25
  go_wp2_with fail
  refine HC.out.mono ?_
  rintro e w1 ⟨rfl, hb⟩
  have HB := Lib.hid hb
  clear hb
  obtain ⟨n, b, ho⟩ := optE_cases (partO kHex 16 (t.extract 2 t.size).data.toList)
  have HO := Lib.hid ho
  rw [ho]
  clear ho
  go_wp2_with fail
  go_ret2
  exact ⟨HO.out.symm, HB.out⟩
set_option maxHeartbeats 1000000 in
set_option maxRecDepth 100000 in
theorem num_h2 (t : ByteArray) (hmax : t.size ≤ 140737488355328) (w : World) (hG : Glob w) (e1 : ¬ t.toList = [48, 120]) (e2 : ¬ t.toList = [48, 88]) (h2 : 2 < t.size) (h0 : t[0].toNat = 48) (h1 : t[1].toNat = 88) :
    Calls Tryd.prog 25 #[.string t] w fun e w' => e = optE (partO kHex 16 (t.extract 2 t.size).data.toList) ∧ Below w.heap.size w w' := by
  have f1 := bq_f e1
  have f2 := bq_f e2
  clear e2
  have g0 : (t[0].toNat : Int) = 48 := by omega
  have g1 : ((t[1].toNat : Int) == 120) = false := by rw [beq_eq_false_iff_ne]; omega
  have g3 : ((t[1].toNat : Int) == 88) = true := by rw [beq_iff_eq]; omega
  have g2 : (2 : Int) < (t.size : Int) := by omega
  clear h0 h1
  have c0 := hG.dec0
  have c1 := hG.dec1
  have c2 := hG.oct0
  have c3 := hG.oct1
  have HC := Lib.hid (hex_is (t.extract 2 t.size) (by rw [ByteArray.size_extract]; omega) w hG)
  clear hG
  go_enter Tryd.func25, Tryd.ntmps25
  go_wp2_with fail
  refine HC.out.mono ?_
  rintro e w1 ⟨rfl, hb⟩
  have HB := Lib.hid hb
  clear hb
  obtain ⟨n, b, ho⟩ := optE_cases (partO kHex 16 (t.extract 2 t.size).data.toList)
  have HO := Lib.hid ho
  rw [ho]
  clear ho
  go_wp2_with fail
  go_ret2
  exact ⟨HO.out.symm, HB.out⟩
set_option maxHeartbeats 1000000 in
set_option maxRecDepth 100000 in
theorem num_o1 (t : ByteArray) (hmax : t.size ≤ 140737488355328) (w : World) (hG : Glob w) (e1 : ¬ t.toList = [48, 120]) (e2 : ¬ t.toList = [48, 88]) (h2 : 2 < t.size) (h0 : t[0].toNat = 48) (h1 : ¬ t[1].toNat = 120) (h3 : ¬ t[1].toNat = 88) :
    Calls Tryd.prog 25 #[.string t] w fun e w' => e = optE (partO [kOct] 8 t.data.toList) ∧ Below w.heap.size w w' := by
  have f1 := bq_f e1
  have f2 := bq_f e2
  clear e2
  have g0 : (t[0].toNat : Int) = 48 := by omega
  have g1 : ((t[1].toNat : Int) == 120) = false := by rw [beq_eq_false_iff_ne]; omega
  have g3 : ((t[1].toNat : Int) == 88) = false := by rw [beq_eq_false_iff_ne]; omega
  have g2 : (2 : Int) < (t.size : Int) := by omega
  have g4 : (1 : Int) < (t.size : Int) := by omega
  clear h0 h1 h3
  have c0 := hG.dec0
  have c1 := hG.dec1
  have c2 := hG.oct0
  have c3 := hG.oct1
  have HC := Lib.hid (value_oct t hmax w hG)
  clear hG
  go_enter Tryd.func25, Tryd.ntmps25
  go_wp2_with fail
  refine HC.out.mono ?_
  rintro e w1 ⟨rfl, hb⟩
  have HB := Lib.hid hb
  clear hb
  obtain ⟨n, b, ho⟩ := optE_cases (partO [kOct] 8 t.data.toList)
  have HO := Lib.hid ho
  rw [ho]
  clear ho
  go_wp2_with fail
  go_ret2
  exact ⟨HO.out.symm, HB.out⟩
set_option maxHeartbeats 1000000 in
set_option maxRecDepth 100000 in
theorem num_o2 (t : ByteArray) (hmax : t.size ≤ 140737488355328) (w : World) (hG : Glob w) (e1 : ¬ t.toList = [48, 120]) (e2 : ¬ t.toList = [48, 88]) (h2 : 1 < t.size) (h2b : t.size ≤ 2) (h0 : t[0].toNat = 48) :
    Calls Tryd.prog 25 #[.string t] w fun e w' => e = optE (partO [kOct] 8 t.data.toList) ∧ Below w.heap.size w w' := by
  have f1 := bq_f e1
  have f2 := bq_f e2
  clear e2
  have g0 : ((t[0].toNat : Int) == 48) = true := by rw [beq_iff_eq]; omega
  have g2 : (t.size : Int) ≤ 2 := by omega
  have g4 : (1 : Int) < (t.size : Int) := by omega
  have g5 : 0 < t.size := by omega
  clear h0
  have c0 := hG.dec0
  have c1 := hG.dec1
  have c2 := hG.oct0
  have c3 := hG.oct1
  have HC := Lib.hid (value_oct t hmax w hG)
  clear hG
  go_enter Tryd.func25, Tryd.ntmps25
  go_wp2_with fail
  refine HC.out.mono ?_
  rintro e w1 ⟨rfl, hb⟩
  have HB := Lib.hid hb
  clear hb
  obtain ⟨n, b, ho⟩ := optE_cases (partO [kOct] 8 t.data.toList)
  have HO := Lib.hid ho
  rw [ho]
  clear ho
  go_wp2_with fail
  go_ret2
  exact ⟨HO.out.symm, HB.out⟩
set_option maxHeartbeats 1000000 in
set_option maxRecDepth 100000 in
theorem num_d1 (t : ByteArray) (hmax : t.size ≤ 140737488355328) (w : World) (hG : Glob w) (e1 : ¬ t.toList = [48, 120]) (e2 : ¬ t.toList = [48, 88]) (h2 : 2 < t.size) (h0 : ¬ t[0].toNat = 48) :
    Calls Tryd.prog 25 #[.string t] w fun e w' => e = optE (partO [kDec] 10 t.data.toList) ∧ Below w.heap.size w w' := by
  have f1 := bq_f e1
  have f2 := bq_f e2
  clear e2
  have g0 : ((t[0].toNat : Int) == 48) = false := by rw [beq_eq_false_iff_ne]; omega
  have g2 : (2 : Int) < (t.size : Int) := by omega
  have g4 : (1 : Int) < (t.size : Int) := by omega
  clear h0
  have c0 := hG.dec0
  have c1 := hG.dec1
  have c2 := hG.oct0
  have c3 := hG.oct1
  have HC := Lib.hid (value_dec t hmax w hG)
  clear hG
  go_enter Tryd.func25, Tryd.ntmps25
  go_wp2_with fail
  refine HC.out.mono ?_
  rintro e w1 ⟨rfl, hb⟩
  have HB := Lib.hid hb
  clear hb
  obtain ⟨n, b, ho⟩ := optE_cases (partO [kDec] 10 t.data.toList)
  have HO := Lib.hid ho
  rw [ho]
  clear ho
  go_wp2_with fail
  go_ret2
  exact ⟨HO.out.symm, HB.out⟩
set_option maxHeartbeats 1000000 in
set_option maxRecDepth 100000 in
theorem num_d2 (t : ByteArray) (hmax : t.size ≤ 140737488355328) (w : World) (hG : Glob w) (e1 : ¬ t.toList = [48, 120]) (e2 : ¬ t.toList = [48, 88]) (h2 : 1 < t.size) (h2b : t.size ≤ 2) (h0 : ¬ t[0].toNat = 48) :
    Calls Tryd.prog 25 #[.string t] w fun e w' => e = optE (partO [kDec] 10 t.data.toList) ∧ Below w.heap.size w w' := by
  have f1 := bq_f e1
  have f2 := bq_f e2
  clear e2
  have g0 : ((t[0].toNat : Int) == 48) = false := by rw [beq_eq_false_iff_ne]; omega
  have g2 : (t.size : Int) ≤ 2 := by omega
  have g4 : (1 : Int) < (t.size : Int) := by omega
  have g5 : 0 < t.size := by omega
  clear h0
  have c0 := hG.dec0
  have c1 := hG.dec1
  have c2 := hG.oct0
  have c3 := hG.oct1
  have HC := Lib.hid (value_dec t hmax w hG)
  clear hG
  go_enter Tryd.func25, Tryd.ntmps25
  go_wp2_with fail
  refine HC.out.mono ?_
  rintro e w1 ⟨rfl, hb⟩
  have HB := Lib.hid hb
  clear hb
  obtain ⟨n, b, ho⟩ := optE_cases (partO [kDec] 10 t.data.toList)
  have HO := Lib.hid ho
  rw [ho]
  clear ho
  go_wp2_with fail
  go_ret2
  exact ⟨HO.out.symm, HB.out⟩
set_option maxHeartbeats 1000000 in
set_option maxRecDepth 100000 in
theorem num_d3 (t : ByteArray) (hmax : t.size ≤ 140737488355328) (w : World) (hG : Glob w) (e1 : ¬ t.toList = [48, 120]) (e2 : ¬ t.toList = [48, 88]) (h2 : t.size ≤ 1) :
    Calls Tryd.prog 25 #[.string t] w fun e w' => e = optE (partO [kDec] 10 t.data.toList) ∧ Below w.heap.size w w' := by
  have f1 := bq_f e1
  have f2 := bq_f e2
  clear e2
  have g2 : (t.size : Int) ≤ 2 := by omega
  have g4 : (t.size : Int) ≤ 1 := by omega
  clear h2
  have c0 := hG.dec0
  have c1 := hG.dec1
  have c2 := hG.oct0
  have c3 := hG.oct1
  have HC := Lib.hid (value_dec t hmax w hG)
  clear hG
  go_enter Tryd.func25, Tryd.ntmps25
  go_wp2_with fail
  refine HC.out.mono ?_
  rintro e w1 ⟨rfl, hb⟩
  have HB := Lib.hid hb
  clear hb
  obtain ⟨n, b, ho⟩ := optE_cases (partO [kDec] 10 t.data.toList)
  have HO := Lib.hid ho
  rw [ho]
  clear ho
  go_wp2_with fail
  go_ret2
  exact ⟨HO.out.symm, HB.out⟩
theorem at0 (t : ByteArray) (k : Nat) (h : k < t.size) : t.data.toList[k]? = some t[k] := by
  rw [List.getElem?_eq_getElem (by simpa using h)]; rfl
theorem u8eq (b : UInt8) (n : Nat) (hn : n < 256) : (some b = some (UInt8.ofNat n)) ↔ b.toNat = n := by
  rw [Option.some.injEq, ← UInt8.toNat_inj, UInt8.toNat_ofNat', Nat.mod_eq_of_lt (by omega)]
theorem ext_drop (s : ByteArray) (k : Nat) : (s.extract k s.size).data.toList = s.data.toList.drop k := by
  simp only [ByteArray.data_extract, Array.toList_extract, List.extract_eq_take_drop]
  exact List.take_of_length_le (by simp)
theorem number_is (t : ByteArray) (hmax : t.size ≤ 140737488355328) (w : World) (hG : Glob w) :
    Calls Tryd.prog 25 #[.string t] w fun e w' => e = optE (numO t.data.toList) ∧ Below w.heap.size w w' := by
  have hlen : t.data.toList.length = t.size := by simp
  by_cases e1 : t.toList = [48, 120]
  · rw [show numO t.data.toList = some 0 from if_pos (.inl (by rw [← ByteArray.toList_eq]; exact e1))]
    exact num_x t w e1
  by_cases e2 : t.toList = [48, 88]
  · rw [show numO t.data.toList = some 0 from if_pos (.inr (by rw [← ByteArray.toList_eq]; exact e2))]
    exact num_X t w e1 e2
  have hn : ¬ (t.data.toList = [48, 120] ∨ t.data.toList = [48, 88]) := by rw [← ByteArray.toList_eq]; exact fun h => h.elim e1 e2
  by_cases h2 : 2 < t.size
  · have a0 := at0 t 0 (by omega)
    have a1 := at0 t 1 (by omega)
    by_cases h0 : t[0].toNat = 48
    · have k0 : t.data.toList[0]? = some 48 := a0.trans ((u8eq _ 48 (by omega)).2 h0)
      by_cases h1 : t[1].toNat = 120
      · have k1 : t.data.toList[1]? = some 120 := a1.trans ((u8eq _ 120 (by omega)).2 h1)
        rw [show numO t.data.toList = partO kHex 16 (t.extract 2 t.size).data.toList by rw [ext_drop]; exact (if_neg hn).trans (if_pos ⟨by omega, k0, .inl k1⟩)]
        exact num_h1 t hmax w hG e1 e2 h2 h0 h1
      by_cases h3 : t[1].toNat = 88
      · have k1 : t.data.toList[1]? = some 88 := a1.trans ((u8eq _ 88 (by omega)).2 h3)
        rw [show numO t.data.toList = partO kHex 16 (t.extract 2 t.size).data.toList by rw [ext_drop]; exact (if_neg hn).trans (if_pos ⟨by omega, k0, .inr k1⟩)]
        exact num_h2 t hmax w hG e1 e2 h2 h0 h3
      · have hx : ¬ (2 < t.data.toList.length ∧ t.data.toList[0]? = some 48 ∧ (t.data.toList[1]? = some 120 ∨ t.data.toList[1]? = some 88)) := by
          rintro ⟨_, _, h | h⟩
          · exact h1 ((u8eq _ 120 (by omega)).1 (a1.symm.trans h))
          · exact h3 ((u8eq _ 88 (by omega)).1 (a1.symm.trans h))
        rw [show numO t.data.toList = partO [kOct] 8 t.data.toList from (if_neg hn).trans ((if_neg hx).trans (if_pos ⟨by omega, k0⟩))]
        exact num_o1 t hmax w hG e1 e2 h2 h0 h1 h3
    · have k0 : ¬ t.data.toList[0]? = some 48 := fun h => h0 ((u8eq _ 48 (by omega)).1 (a0.symm.trans h))
      rw [show numO t.data.toList = partO [kDec] 10 t.data.toList from (if_neg hn).trans ((if_neg fun h => k0 h.2.1).trans (if_neg fun h => k0 h.2))]
      exact num_d1 t hmax w hG e1 e2 h2 h0
  · by_cases h3 : t.size = 2
    · have a0 := at0 t 0 (by omega)
      by_cases h0 : t[0].toNat = 48
      · have k0 : t.data.toList[0]? = some 48 := a0.trans ((u8eq _ 48 (by omega)).2 h0)
        rw [show numO t.data.toList = partO [kOct] 8 t.data.toList from (if_neg hn).trans ((if_neg fun h => by omega).trans (if_pos ⟨by omega, k0⟩))]
        exact num_o2 t hmax w hG e1 e2 (by omega) (by omega) h0
      · have k0 : ¬ t.data.toList[0]? = some 48 := fun h => h0 ((u8eq _ 48 (by omega)).1 (a0.symm.trans h))
        rw [show numO t.data.toList = partO [kDec] 10 t.data.toList from (if_neg hn).trans ((if_neg fun h => k0 h.2.1).trans (if_neg fun h => k0 h.2))]
        exact num_d2 t hmax w hG e1 e2 (by omega) (by omega) h0
    · rw [show numO t.data.toList = partO [kDec] 10 t.data.toList from (if_neg hn).trans ((if_neg fun h => by omega).trans (if_neg fun h => by omega))]
      exact num_d3 t hmax w hG e1 e2 (by omega)
end Go.Proofs.YtflddokngplgiaaDoor
