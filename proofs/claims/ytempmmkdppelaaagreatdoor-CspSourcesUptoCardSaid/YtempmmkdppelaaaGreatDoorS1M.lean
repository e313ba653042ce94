import Derived.Test.YtempmmkdppelaaaGreatDoorD9M
/-
  csp's bytes of a kind: letter, digit, plainOr, made.
-/
namespace Go.Proofs.YtempmmkdppelaaaGreatDoor
open Go.RowKit
def letB (b : UInt8) : Bool := (decide (97 ≤ b.toNat) && decide (b.toNat ≤ 122)) || (decide (65 ≤ b.toNat) && decide (b.toNat ≤ 90))
def digB (b : UInt8) : Bool := decide (48 ≤ b.toNat) && decide (b.toNat ≤ 57)
def plainB (more : List UInt8) (b : UInt8) : Bool := letB b || digB b || more.contains b
def madeB (f : UInt8 → Bool) (s : List UInt8) : Bool := s.all f && !s.isEmpty
set_option maxHeartbeats 1000000 in
theorem letter_is (b : UInt8) (r : Bool) (hr : letB b = r) (w : World) : Calls Tryz.prog 105 #[.int .u8 b.toNat] w fun e w' => e = .returned (.bool r) ∧ w' = w := by
  unfold letB at hr
  have HR := Lib.hid hr
  clear hr
  generalize b.toNat = n at *
  by_cases h1 : 97 ≤ n
  · have g1 : decide ((97 : Int) ≤ (n : Int)) = true := decide_eq_true (by omega)
    by_cases h2 : n ≤ 122
    · have g2 : decide ((n : Int) ≤ 122) = true := decide_eq_true (by omega)
      have hr : r = true := by rw [← HR.out]; simp [h1, h2]
      subst hr
      go_enter Tryz.func105, Tryz.ntmps105
      go_wp2
      go_ret
      exact ⟨rfl, rfl⟩
    · have g2 : decide ((n : Int) ≤ 122) = false := decide_eq_false (by omega)
      have g3 : decide ((65 : Int) ≤ (n : Int)) = true := decide_eq_true (by omega)
      have g4 : decide ((n : Int) ≤ 90) = false := decide_eq_false (by omega)
      have hr : r = false := by rw [← HR.out]; simp [h2]; omega
      subst hr
      go_enter Tryz.func105, Tryz.ntmps105
      go_wp2
      go_ret
      exact ⟨rfl, rfl⟩
  · have g1 : decide ((97 : Int) ≤ (n : Int)) = false := decide_eq_false (by omega)
    by_cases h3 : 65 ≤ n
    · have g3 : decide ((65 : Int) ≤ (n : Int)) = true := decide_eq_true (by omega)
      by_cases h4 : n ≤ 90
      · have g4 : decide ((n : Int) ≤ 90) = true := decide_eq_true (by omega)
        have hr : r = true := by rw [← HR.out]; simp [h3, h4]
        subst hr
        go_enter Tryz.func105, Tryz.ntmps105
        go_wp2
        go_ret
        exact ⟨rfl, rfl⟩
      · have g4 : decide ((n : Int) ≤ 90) = false := decide_eq_false (by omega)
        have hr : r = false := by rw [← HR.out]; simp [h4]; omega
        subst hr
        go_enter Tryz.func105, Tryz.ntmps105
        go_wp2
        go_ret
        exact ⟨rfl, rfl⟩
    · have g3 : decide ((65 : Int) ≤ (n : Int)) = false := decide_eq_false (by omega)
      have hr : r = false := by rw [← HR.out]; simp [h3]; omega
      subst hr
      go_enter Tryz.func105, Tryz.ntmps105
      go_wp2
      go_ret
      exact ⟨rfl, rfl⟩
set_option maxHeartbeats 1000000 in
theorem digit_is (b : UInt8) (r : Bool) (hr : digB b = r) (w : World) : Calls Tryz.prog 109 #[.int .u8 b.toNat] w fun e w' => e = .returned (.bool r) ∧ w' = w := by
  unfold digB at hr
  have HR := Lib.hid hr
  clear hr
  generalize b.toNat = n at *
  by_cases h1 : 48 ≤ n
  · have g1 : decide ((48 : Int) ≤ (n : Int)) = true := decide_eq_true (by omega)
    by_cases h2 : n ≤ 57
    · have g2 : decide ((n : Int) ≤ 57) = true := decide_eq_true (by omega)
      have hr : r = true := by rw [← HR.out]; simp [h1, h2]
      subst hr
      go_enter Tryz.func109, Tryz.ntmps109
      go_wp2
      go_ret
      exact ⟨rfl, rfl⟩
    · have g2 : decide ((n : Int) ≤ 57) = false := decide_eq_false (by omega)
      have hr : r = false := by rw [← HR.out]; simp [h2]
      subst hr
      go_enter Tryz.func109, Tryz.ntmps109
      go_wp2
      go_ret
      exact ⟨rfl, rfl⟩
  · have g1 : decide ((48 : Int) ≤ (n : Int)) = false := decide_eq_false (by omega)
    have hr : r = false := by rw [← HR.out]; simp [h1]
    subst hr
    go_enter Tryz.func109, Tryz.ntmps109
    go_wp2
    go_ret
    exact ⟨rfl, rfl⟩
theorem mk_plainOr (more : ByteArray) (w : World) : Calls Tryz.prog 103 #[.string more] w fun e w' => e = .returned (.func (.func 120) #[] #[.pointer (some ⟨w.heap.size, 0, none⟩)]) ∧ w' = w.alloc (.cells #[.string more] 9) := by
  go_enter Tryz.func103, Tryz.ntmps103
  go_wp2
  go_ret
  exact ⟨rfl, rfl⟩
set_option maxHeartbeats 1000000 in
theorem plainOr_is (more : ByteArray) (bx : Nat) (b : UInt8) (r : Bool) (hr : plainB more.data.toList b = r) (w : World) (hB : Boxed w bx 9 (.string more)) :
    Calls Tryz.prog 120 #[.int .u8 b.toNat, .pointer (some ⟨bx, 0, none⟩)] w fun e w' => e = .returned (.bool r) ∧ w' = w := by
  unfold plainB at hr
  obtain ⟨x, hx⟩ : ∃ x, letB b = x := ⟨_, rfl⟩
  obtain ⟨y, hy⟩ : ∃ y, digB b = y := ⟨_, rfl⟩
  obtain ⟨z, hz⟩ : ∃ z, more.data.toList.contains b = z := ⟨_, rfl⟩
  rw [hx, hy, hz] at hr
  have HL := Lib.hid (letter_is b x hx w)
  have HD := Lib.hid (digit_is b y hy w)
  have hI := Tryz.strings_IndexByte more b.toNat w
  rw [Int.toNat_natCast, show b.toNat.toUInt8 = b by simp] at hI
  have hidx : decide ((0 : Int) ≤ Lib.indexByte more.data.toList b) = z := by
    rw [← hz]
    rcases Ks.idx_cases more.data.toList b with ⟨h1, h2⟩ | ⟨i, h1, h2, h3, _⟩
    · rw [h1]; simpa using h2
    · rw [h1]
      have : b ∈ more.data.toList := List.mem_of_getElem? h3
      simp only [List.contains_eq_mem, this, decide_true]
      exact decide_eq_true (by omega)
  have hcx := hB.cell
  generalize Lib.indexByte more.data.toList b = i at *
  have HI := Lib.hid hI
  clear hI hx hy hz hB
  cases x with
  | true =>
    have hr : r = true := by rw [← hr]; rfl
    subst hr
    go_enter Tryz.func120, Tryz.ntmps120
    go_wp2_with (go_at_call 105; refine HL.out.mono ?_; rintro e w1 ⟨rfl, rfl⟩)
    go_ret
    exact ⟨rfl, rfl⟩
  | false =>
    cases y with
    | true =>
      have hr : r = true := by rw [← hr]; rfl
      subst hr
      go_enter Tryz.func120, Tryz.ntmps120
      go_wp2_with (first | (go_at_call 105; refine HL.out.mono ?_; rintro e w1 ⟨rfl, rfl⟩) | (go_at_call 109; refine HD.out.mono ?_; rintro e w1 ⟨rfl, rfl⟩))
      go_ret
      exact ⟨rfl, rfl⟩
    | false =>
      have hr : r = z := by rw [← hr]; rfl
      subst hr
      go_enter Tryz.func120, Tryz.ntmps120
      go_wp2_with (first | (go_at_call 105; refine HL.out.mono ?_; rintro e w1 ⟨rfl, rfl⟩) | (go_at_call 109; refine HD.out.mono ?_; rintro e w1 ⟨rfl, rfl⟩) | (go_at_call 79; refine HI.out.mono ?_; rintro e w1 ⟨rfl, rfl⟩))
      go_ret
      exact ⟨rfl, rfl⟩
end Go.Proofs.YtempmmkdppelaaaGreatDoor
/-
  csp's made.
-/
namespace Go.Proofs.YtempmmkdppelaaaGreatDoor
open Go.RowKit
theorem all_take {f : UInt8 → Bool} {l : List UInt8} {k : Nat} {b : UInt8} (h : (l.take k).all f = true) (hb : l[k]? = some b) (hf : f b = true) : (l.take (k + 1)).all f = true := by
  obtain ⟨hk, rfl⟩ := List.getElem?_eq_some_iff.1 hb
  rw [List.take_succ_eq_append_getElem hk, List.all_append, h, List.all_cons, hf]; rfl
set_option maxHeartbeats 2000000 in
set_option maxRecDepth 100000 in
theorem made_is (g : Nat) (lb : Array Value) (eg : ∀ args w, (callFunc g args).run Tryz.prog w = .ok (.enter g args) w) (f : UInt8 → Bool) (s : ByteArray) (hs : s.size ≤ 281474976710656) (r : Bool) (hr : madeB f s.data.toList = r) (w : World)
    (hp : ∀ (b : UInt8) (W : World), Below w.heap.size w W → Calls Tryz.prog g (#[.int .u8 b.toNat] ++ lb) W fun e w' => e = .returned (.bool (f b)) ∧ Below W.heap.size W w') :
    Calls Tryz.prog 102 #[.string s, .func (.func g) #[] lb] w fun e w' => e = .returned (.bool r) ∧ Below w.heap.size w w' := by
  have HR := Lib.hid hr
  have HP := Lib.hid hp
  clear hr hp
  have hlen : s.data.toList.length = s.size := Ks.len_list s
  go_enter Tryz.func102, Tryz.ntmps102
  go_wp2
  go_loopw [8] (fun i wr => ∃ k : Nat, k ≤ s.size ∧ i = .int .i64 k ∧ Hid ((s.data.toList.take k).all f = true) ∧ Below w.heap.size w wr) (fun i _ => s.size - (intOf i).toNat)
  case atStart => exact ⟨0, by omega, rfl, Lib.hid (by simp), Below.refl _ _⟩
  case round =>
    obtain ⟨k, hk, rfl, HA, hb⟩ := hrel
    by_cases hlt : k < s.size
    · have i1 : (k : Int) < (s.size : Int) := by omega
      have hbk : s.data.toList[k]? = some s[k] := by rw [List.getElem?_eq_getElem (by omega)]; rfl
      have HB := Lib.hid hb
      have cS := HP.out s[k] wr hb
      have HT := Lib.hid (fun h : f s[k] = true => all_take HA.out hbk h)
      have HF := Lib.hid (show f s[k] = false → madeB f s.data.toList = false from fun h => by
        unfold madeB
        have : s.data.toList.all f = false := by
          rw [List.all_eq_false]
          exact ⟨_, List.mem_of_getElem? hbk, by rw [h]; simp⟩
        rw [this]; rfl)
      clear HP hb hbk
      generalize hx : f s[k] = x at *
      cases x with
      | true =>
        go_wp2_with (go_at_fn g; refine cS.mono ?_; rintro e W' ⟨rfl, hbc⟩)
        go_roundw
        case rel => exact ⟨k + 1, by omega, by go_num, Lib.hid (HT.out trivial), HB.out.trans (hbc.mono HB.out.size)⟩
        case measure => simp [intOf]; omega
      | false =>
        go_wp2_with (go_at_fn g; refine cS.mono ?_; rintro e W' ⟨rfl, hbc⟩)
        go_ret
        exact ⟨ret_bool (by rw [← HR.out, HF.out trivial]), HB.out.trans (hbc.mono HB.out.size)⟩
    · have hall : s.data.toList.all f = true := by
        have := HA.out
        rw [List.take_of_length_le (by omega)] at this; exact this
      have HE := Lib.hid (show s.toList.isEmpty = !r by
        rw [← HR.out, ByteArray.toList_eq]; unfold madeB; rw [hall]; simp)
      clear hall
      go_wp2
      go_ret
      exact ⟨ret_bool (by rw [HE.out]; simp), hb⟩
end Go.Proofs.YtempmmkdppelaaaGreatDoor
/-
  csp's code, isScheme, cut, marked.
-/
namespace Go.Proofs.YtempmmkdppelaaaGreatDoor
open Go.RowKit
theorem made_plain (more s : ByteArray) (bx : Nat) (hs : s.size ≤ 281474976710656) (r : Bool) (hr : madeB (plainB more.data.toList) s.data.toList = r) (w : World) (hB : Boxed w bx 9 (.string more)) :
    Calls Tryz.prog 102 #[.string s, .func (.func 120) #[] #[.pointer (some ⟨bx, 0, none⟩)]] w fun e w' => e = .returned (.bool r) ∧ Below w.heap.size w w' :=
  made_is 120 _ (enters_of Tryz.func120 (by kernel_rfl) rfl) _ s hs r hr w fun b W hb => (plainOr_is more bx b _ rfl W (Boxed.to' hB hb)).mono fun e w' ⟨h1, h2⟩ => ⟨h1, by rw [h2]; exact Below.refl _ _⟩
theorem made_digit (s : ByteArray) (hs : s.size ≤ 281474976710656) (r : Bool) (hr : madeB digB s.data.toList = r) (w : World) :
    Calls Tryz.prog 102 #[.string s, .func (.func 109) #[] #[]] w fun e w' => e = .returned (.bool r) ∧ Below w.heap.size w w' :=
  made_is 109 #[] (enters_of Tryz.func109 (by kernel_rfl) rfl) _ s hs r hr w fun b W hb => (digit_is b _ rfl W).mono fun e w' ⟨h1, h2⟩ => ⟨h1, by rw [h2]; exact Below.refl _ _⟩
/-- a text may be a nonce -/
def codeB (s : List UInt8) : Bool := madeB (plainB [43, 47, 45, 95]) (Lib.trimRightB s 61) && decide (s.length - (Lib.trimRightB s 61).length ≤ 2)
theorem trimRightB_len (l : List UInt8) (c : UInt8) : (Lib.trimRightB l c).length ≤ l.length := by
  unfold Lib.trimRightB
  rw [List.length_reverse]
  have := List.Sublist.length_le (List.dropWhile_sublist (· == c) (l := l.reverse))
  simpa using this
set_option maxHeartbeats 1000000 in
theorem code_is (s : ByteArray) (hs : s.size ≤ 2097152) (r : Bool) (hr : codeB s.data.toList = r) (w : World) :
    Calls Tryz.prog 88 #[.string s] w fun e w' => e = .returned (.bool r) ∧ Below w.heap.size w w' := by
  unfold codeB at hr
  have hT := Tryz.strings_TrimRight_one s 61 (by decide) w (by omega)
  have hl := trimRightB_len s.data.toList 61
  obtain ⟨t, ht⟩ : ∃ t : ByteArray, t = ⟨(Lib.trimRightB s.data.toList 61).toArray⟩ := ⟨_, rfl⟩
  have htl : Lib.trimRightB s.data.toList 61 = t.data.toList := by rw [ht]
  rw [← ht] at hT
  rw [htl, Ks.len_list, Ks.len_list] at hl hr
  have HT := Lib.hid hT
  clear hT ht htl
  obtain ⟨x, hx⟩ : ∃ x, madeB (plainB [43, 47, 45, 95]) t.data.toList = x := ⟨_, rfl⟩
  rw [hx] at hr
  have HM := Lib.hid (fun (bx : Nat) (W : World) (hB : Boxed W bx 9 (.string ⟨#[43, 47, 45, 95]⟩)) => made_plain ⟨#[43, 47, 45, 95]⟩ t bx (by omega) x hx W hB)
  clear hx
  have HMK := Lib.hid (fun (W : World) => mk_plainOr ⟨#[43, 47, 45, 95]⟩ W)
  cases x with
  | true =>
    have h2 : decide (((s.size : Int) - (t.size : Int)) ≤ 2) = r := by rw [← hr]; simp; omega
    have HR := Lib.hid h2
    clear h2 hr
    go_enter Tryz.func88, Tryz.ntmps88
    go_wp2_with (first | (go_at_call 101; refine HT.out.mono ?_; rintro e w1 ⟨rfl, rfl⟩) | (go_at_call 103; refine (HMK.out _).mono ?_; rintro e w1 ⟨rfl, rfl⟩) | (go_at_call 102; refine (HM.out _ _ (Boxed.new _ _ _)).mono ?_; rintro e w1 ⟨rfl, hb1⟩))
    go_ret
    exact ⟨ret_bool HR.out, bel2 (bnew _ _) hb1⟩
  | false =>
    have hr2 : r = false := by rw [← hr]; rfl
    subst hr2
    clear hr
    go_enter Tryz.func88, Tryz.ntmps88
    go_wp2_with (first | (go_at_call 101; refine HT.out.mono ?_; rintro e w1 ⟨rfl, rfl⟩) | (go_at_call 103; refine (HMK.out _).mono ?_; rintro e w1 ⟨rfl, rfl⟩) | (go_at_call 102; refine (HM.out _ _ (Boxed.new _ _ _)).mono ?_; rintro e w1 ⟨rfl, hb1⟩))
    go_ret
    exact ⟨rfl, bel2 (bnew _ _) hb1⟩
end Go.Proofs.YtempmmkdppelaaaGreatDoor
/-
  csp's isScheme, cut.
-/
namespace Go.Proofs.YtempmmkdppelaaaGreatDoor
open Go.RowKit
/-- a text is a scheme -/
def schemeB (s : List UInt8) : Bool := (match s with | [] => false | b :: _ => letB b) && madeB (plainB [43, 45, 46]) s
set_option maxHeartbeats 1000000 in
theorem isScheme_is (s : ByteArray) (hs : s.size ≤ 2097152) (r : Bool) (hr : schemeB s.data.toList = r) (w : World) :
    Calls Tryz.prog 90 #[.string s] w fun e w' => e = .returned (.bool r) ∧ Below w.heap.size w w' := by
  unfold schemeB at hr
  by_cases h0 : s.size = 0
  · have hnil : s.data.toList = [] := List.eq_nil_of_length_eq_zero (by rw [Ks.len_list]; exact h0)
    have he : s.toList.isEmpty = true := by rw [ByteArray.toList_eq, hnil]; rfl
    have hr2 : r = false := by rw [← hr, hnil]; rfl
    subst hr2
    clear hr hnil
    go_enter Tryz.func90, Tryz.ntmps90
    go_wp2
    go_ret
    exact ⟨rfl, Below.refl _ _⟩
  · have hlt : 0 < s.size := by omega
    have hc : s.data.toList = s[0] :: s.data.toList.drop 1 := by
      have h1 : 0 < s.data.toList.length := by rw [Ks.len_list]; exact hlt
      have := List.drop_eq_getElem_cons h1
      rw [List.drop_zero] at this; exact this
    have he : s.toList.isEmpty = false := by rw [ByteArray.toList_eq, hc]; rfl
    obtain ⟨x, hx⟩ : ∃ x, letB s[0] = x := ⟨_, rfl⟩
    obtain ⟨y, hy⟩ : ∃ y, madeB (plainB [43, 45, 46]) s.data.toList = y := ⟨_, rfl⟩
    rw [hy, hc] at hr
    simp only [hx] at hr
    have HL := Lib.hid (letter_is s[0] x hx w)
    have HM := Lib.hid (fun (bx : Nat) (W : World) (hB : Boxed W bx 9 (.string ⟨#[43, 45, 46]⟩)) => made_plain ⟨#[43, 45, 46]⟩ s bx (by omega) y hy W hB)
    have HMK := Lib.hid (fun (W : World) => mk_plainOr ⟨#[43, 45, 46]⟩ W)
    clear hx hy hc h0
    cases x with
    | false =>
      have hr2 : r = false := by rw [← hr]; rfl
      subst hr2
      clear hr
      go_enter Tryz.func90, Tryz.ntmps90
      go_wp2_with (go_at_call 105; refine HL.out.mono ?_; rintro e w1 ⟨rfl, rfl⟩)
      go_ret
      exact ⟨rfl, Below.refl _ _⟩
    | true =>
      have hr2 : r = y := by rw [← hr]; rfl
      subst hr2
      clear hr
      go_enter Tryz.func90, Tryz.ntmps90
      go_wp2_with (first | (go_at_call 105; refine HL.out.mono ?_; rintro e w1 ⟨rfl, rfl⟩) | (go_at_call 103; refine (HMK.out _).mono ?_; rintro e w1 ⟨rfl, rfl⟩) | (go_at_call 102; refine (HM.out _ _ (Boxed.new _ _ _)).mono ?_; rintro e w1 ⟨rfl, hb1⟩))
      go_ret
      exact ⟨rfl, bel2 (bnew _ _) hb1⟩
/-- a text up to the first of some marks, and the rest -/
def cutP (s marks : List UInt8) : List UInt8 × List UInt8 := (s.takeWhile fun b => !marks.contains b, s.dropWhile fun b => !marks.contains b)
theorem cutP_cat (s marks : List UInt8) : (cutP s marks).1 ++ (cutP s marks).2 = s := List.takeWhile_append_dropWhile
theorem cutP_idx (m : List UInt8) : ∀ s : List UInt8, (Lib.indexAny s m = -1 ∧ cutP s m = (s, [])) ∨ ∃ i : Nat, Lib.indexAny s m = i ∧ i < s.length ∧ cutP s m = (s.take i, s.drop i)
  | [] => .inl ⟨rfl, rfl⟩
  | b :: s => by
    unfold Lib.indexAny cutP
    cases hb : m.contains b with
    | true => exact .inr ⟨0, by simp, by simp, by simp only [List.takeWhile_cons, List.dropWhile_cons, hb, Bool.not_true, Bool.false_eq_true, if_false, List.take_zero, List.drop_zero]⟩
    | false =>
      rcases cutP_idx m s with ⟨h1, h2⟩ | ⟨i, h1, h2, h3⟩
      · refine .inl ⟨by simp [h1], ?_⟩
        unfold cutP at h2
        simp only [Prod.mk.injEq] at h2
        simp only [List.takeWhile_cons, List.dropWhile_cons, hb, Bool.not_false, if_true, h2.1, h2.2]
      · refine .inr ⟨i + 1, ?_, by simp; omega, ?_⟩
        · have hne : ((Lib.indexAny s m == -1) = false) := by rw [h1]; exact beq_eq_false_iff_ne.2 (by omega)
          simp only [Bool.false_eq_true, if_false, hne]
          rw [h1]; rfl
        · unfold cutP at h3
          simp only [Prod.mk.injEq] at h3
          simp only [List.takeWhile_cons, List.dropWhile_cons, hb, Bool.not_false, if_true, h3.1, h3.2, List.take_succ_cons, List.drop_succ_cons]
set_option maxHeartbeats 1000000 in
theorem cut_is (s m : ByteArray) (hs : s.size ≤ 2097152) (h1 : 1 ≤ m.size) (hm : m.size ≤ 2097152) (hc : Asc m.data.toList) (w : World) :
    Calls Tryz.prog 92 #[.string s, .string m] w fun e w' => e = .returned (.tuple #[.string ⟨(cutP s.data.toList m.data.toList).1.toArray⟩, .string ⟨(cutP s.data.toList m.data.toList).2.toArray⟩]) ∧ Below w.heap.size w w' := by
  have hI : Calls Tryz.prog 98 #[.string s, .string m] w fun e w' => e = .returned (.int .i64 (Lib.indexAny s.data.toList m.data.toList)) ∧ Below w.heap.size w w' := by
    by_cases h : m.size = 1
    · exact (Tryz.strings_IndexAny_one s m w h (fun j b hb => hc b (List.mem_of_getElem? hb))).mono fun e w' ⟨h1, h2⟩ => ⟨h1, by rw [h2]; exact Below.refl _ _⟩
    · exact indexAny_any s m w (by omega) (by omega) hc (by omega)
  rcases cutP_idx m.data.toList s.data.toList with ⟨h1, h2⟩ | ⟨i, h1, h2, h3⟩
  · rw [h1] at hI
    rw [h2]
    have HI := Lib.hid hI
    clear hI
    go_enter Tryz.func92, Tryz.ntmps92
    go_wp2_with (go_at_call 98; refine HI.out.mono ?_; rintro e w1 ⟨rfl, hb1⟩)
    refine bodyPost_ret (v := .tuple #[.string s, .string ⟨#[]⟩]) (by simp [results, Tryz.results92, go_sem]) rfl ⟨rfl, hb1⟩
  · rw [h1] at hI
    rw [h3]
    rw [Ks.len_list] at h2
    have e1 : s.extract 0 i = ⟨(s.data.toList.take i).toArray⟩ := by apply ByteArray.ext; apply Array.toList_inj.1; rw [Ks.ext_take]
    have e2 : s.extract i s.size = ⟨(s.data.toList.drop i).toArray⟩ := by apply ByteArray.ext; apply Array.toList_inj.1; rw [Ks.ext_drop]
    have HI := Lib.hid hI
    clear hI
    go_enter Tryz.func92, Tryz.ntmps92
    go_wp2_with (go_at_call 98; refine HI.out.mono ?_; rintro e w1 ⟨rfl, hb1⟩)
    go_quiet (fail)
    go_wp2
    refine bodyPost_ret (v := .tuple #[.string ⟨(s.data.toList.take i).toArray⟩, .string ⟨(s.data.toList.drop i).toArray⟩]) (by simp [results, Tryz.results92, go_sem, e1, e2]) rfl ⟨rfl, below_dn hb1 nq⟩
end Go.Proofs.YtempmmkdppelaaaGreatDoor
