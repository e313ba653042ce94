/-
  The document's hosted.
-/
import Derived.Test.YtempmmkdppelaaaGreatDoorVOM
import Derived.Test.YtempmmkdppelaaaGreatDoorV5M
import Derived.Deep.CutRange
namespace Go.Proofs.YtempmmkdppelaaaGreatDoor
open Go.RowKit
/-- what the walk keeps: the result's cells, the host's, what was there -/
structure HSt (w : World) (x : Src) (W : World) : Prop where
  hr : Has W w.heap.size (.cells ({} : Src).cs 46)
  hx : Has W (w.heap.size + 1) (.cells x.cs 46)
  hb : Below w.heap.size w W
theorem HSt.to {w W W' : World} {x : Src} (h : HSt w x W) (hb : Below W.heap.size W W') : HSt w x W' := ⟨h.hr.to hb, h.hx.to hb, h.hb.trans (hb.mono h.hb.size)⟩
theorem HSt.set {w W : World} {x : Src} (h : HSt w x W) (y : Src) (i : Nat) (v : Value) (hy : Has (W.setCell ⟨w.heap.size + 1, i, none⟩ v) (w.heap.size + 1) (.cells y.cs 46)) : HSt w y (W.setCell ⟨w.heap.size + 1, i, none⟩ v) :=
  ⟨h.hr.far (p := ⟨w.heap.size + 1, i, none⟩) (show w.heap.size ≠ w.heap.size + 1 by omega) v, hy, h.hb.setCell (p := ⟨w.heap.size + 1, i, none⟩) (show w.heap.size ≤ w.heap.size + 1 by omega) v⟩
theorem HSt.drew {w W : World} {x : Src} (h : HSt w x W) : HSt w x W.drew := ⟨has_drew h.hr, has_drew h.hx, h.hb.drew⟩
theorem hst_new (w : World) : HSt w { kind := 5 } (st8 ((w.alloc (.cells ({} : Src).cs 46)).alloc (.cells ({} : Src).cs 46)) (w.heap.size + 1) { kind := 5 }) := by
  have h2 : Has ((w.alloc (.cells ({} : Src).cs 46)).alloc (.cells ({} : Src).cs 46)) (w.heap.size + 1) (.cells ({} : Src).cs 46) := by
    have := Has.new (w.alloc (.cells ({} : Src).cs 46)) (.cells ({} : Src).cs 46)
    rw [World.size_alloc] at this
    exact this
  exact ⟨st8_far _ ((Has.new w _).alloc _) (by omega), st8_has h2, st8_below _ ((bnew w _).alloc (by simp) _) (by omega)⟩
/-- a Boolean says it -/
def TB (b : Bool) (A : Prop) : Prop := b = true ↔ A
theorem TB.t {A : Prop} (h : A) : TB true A := ⟨fun _ => h, fun _ => rfl⟩
theorem TB.f {A : Prop} (h : ¬ A) : TB false A := ⟨fun e => Bool.noConfusion e, fun a => absurd a h⟩
theorem get0 (s : ByteArray) (h : 0 < s.size) : s.data.toList[0]? = some s[0] := by rw [getT (by rw [Ks.len_list]; omega)]; rfl
theorem empty_list {s : ByteArray} (h : s.toList = []) : s.data.toList = [] := (Lib.toList_data s) ▸ h
theorem full_size {s : ByteArray} (h : ¬ s.toList = []) : 0 < s.size := by
  rw [← Ks.len_list]; exact List.length_pos_iff.2 ((Lib.toList_data s) ▸ h)
theorem ext_take_mk (s : ByteArray) (k : Nat) : s.extract 0 k = mkB (s.data.toList.take k) := by
  apply ByteArray.ext; apply Array.toList_inj.1; rw [Ks.ext_take]; rfl
theorem ext_size (s : ByteArray) (k : Nat) : (s.extract k s.size).size ≤ s.size := by rw [ByteArray.size_extract]; omega
theorem decV_snoc (l : List UInt8) (b : UInt8) : decV (l ++ [b]) = decV l * 10 + (b.toNat - 48) := by unfold decV; rw [List.foldl_append]; rfl
theorem fold_lt : ∀ (l : List UInt8) (a : Nat), l.all digB = true → l.foldl (fun a b => a * 10 + (b.toNat - 48)) a < (a + 1) * 10 ^ l.length
  | [], a, _ => by simp
  | b :: l, a, h => by
    rw [List.all_cons, Bool.and_eq_true] at h
    have h2 : b.toNat ≤ 57 := by
      have := h.1
      unfold digB at this
      rw [Bool.and_eq_true] at this
      exact of_decide_eq_true this.2
    have h1 := fold_lt l (a * 10 + (b.toNat - 48)) h.2
    rw [List.foldl_cons, List.length_cons, Nat.pow_succ]
    have h3 : (a * 10 + (b.toNat - 48) + 1) * 10 ^ l.length ≤ ((a + 1) * 10) * 10 ^ l.length := Nat.mul_le_mul_right _ (by omega)
    rw [show (a + 1) * (10 ^ l.length * 10) = ((a + 1) * 10) * 10 ^ l.length by rw [Nat.mul_comm (10 ^ l.length) 10, Nat.mul_assoc]]
    omega
theorem decV_lt (l : List UInt8) (h : l.all digB = true) : decV l < 10 ^ l.length := by
  have := fold_lt l 0 h
  rw [Nat.zero_add, Nat.one_mul] at this
  exact this
/-- a host without a scheme -/
theorem hostN {s : List UInt8} {n : Nat} (hn : rsch s = n) (h : ¬ (0 < n ∧ (s.drop n).take 3 = [58, 47, 47])) : rHost s = (rhN { kind := 5 } s).bind rhT := by
  unfold rHost rhX
  rw [hn, if_neg h]
theorem hostS {s : List UInt8} {n : Nat} (hn : rsch s = n) (h : 0 < n ∧ (s.drop n).take 3 = [58, 47, 47]) : rHost s = (rhN { kind := 5, scheme := lowS (mkB (s.take n)) } (s.drop (n + 3))).bind rhT := by
  unfold rHost rhX
  rw [hn, if_pos h]
/-- what is read behind a host's name -/
def nmT (x : Src) (m : Int) (s : List UInt8) : Option Src := if m < 0 then none else rhT ({ x with text := lowS (mkB (s.take m.toNat)) }, s.drop m.toNat)
theorem nameN (x : Src) {s : List UInt8} (h : s[0]? ≠ some 42) : (rhN x s).bind rhT = nmT x (rname s) s := by
  unfold rhN nmT
  rw [if_neg h]
  by_cases hlt : rname s < 0
  · rw [if_pos hlt, if_pos hlt]; rfl
  · rw [if_neg hlt, if_neg hlt]; rfl
theorem nameW (x : Src) {s : List UInt8} (h : s[0]? = some 42) (h1 : s[1]? ≠ some 46) : (rhN x s).bind rhT = nmT { x with wild := true } 0 (s.drop 1) := by
  unfold rhN nmT
  rw [if_pos h, if_neg h1, if_neg (by decide)]; rfl
theorem nameD (x : Src) {s : List UInt8} (h : s[0]? = some 42) (h1 : s[1]? = some 46) : (rhN x s).bind rhT = nmT { x with wild := true } (rname (s.drop 2)) (s.drop 2) := by
  unfold rhN nmT
  rw [if_pos h, if_pos h1]
  by_cases hlt : rname (s.drop 2) < 0
  · rw [if_pos hlt, if_pos hlt]; rfl
  · rw [if_neg hlt, if_neg hlt]; rfl
theorem portN (x : Src) {s : List UInt8} (h : s[0]? ≠ some 58) : rhT (x, s) = rhPath x s := by
  unfold rhT rhPort
  simp only
  rw [if_neg h]; rfl
/-- what is read behind the colon, k digits there -/
def poT (x : Src) (k : Nat) (d : List UInt8) : Option Src :=
  if 5 < k then none
  else if k = 0 then (if d[0]? = some 42 then rhPath { x with anyPort := true } (d.drop 1) else none)
  else if 65535 < decV (d.take k) then none
  else rhPath { x with hasPort := true, port := (decV (d.take k) : Nat) } (d.drop k)
theorem portD (x : Src) {s : List UInt8} (h : s[0]? = some 58) : rhT (x, s) = poT x ((s.drop 1).takeWhile digB).length (s.drop 1) := by
  unfold rhT rhPort poT
  simp only
  have ht : (s.drop 1).takeWhile digB = (s.drop 1).take ((s.drop 1).takeWhile digB).length :=
     (List.prefix_iff_eq_take.1 (List.takeWhile_prefix _))
  rw [← ht, if_pos h]
  generalize (s.drop 1).takeWhile digB = K
  by_cases h5 : 5 < K.length
  · rw [if_pos h5, if_pos h5]; rfl
  · rw [if_neg h5, if_neg h5]
    by_cases h0 : K.length = 0
    · rw [if_pos h0, if_pos h0]
      by_cases h42 : (s.drop 1)[0]? = some 42
      · rw [if_pos h42, if_pos h42]; rfl
      · rw [if_neg h42, if_neg h42]; rfl
    · rw [if_neg h0, if_neg h0]
      by_cases h6 : 65535 < decV K
      · rw [if_pos h6, if_pos h6]; rfl
      · rw [if_neg h6, if_neg h6]; rfl
theorem po_zero (x : Src) (d : List UInt8) : poT x 0 d = if d[0]? = some 42 then rhPath { x with anyPort := true } (d.drop 1) else none := by unfold poT; rw [if_neg (by omega), if_pos rfl]
theorem po_more (x : Src) {k : Nat} (d : List UInt8) (h0 : k ≠ 0) (h5 : k ≤ 5) : poT x k d = if 65535 < decV (d.take k) then none else rhPath { x with hasPort := true, port := (decV (d.take k) : Nat) } (d.drop k) := by unfold poT; rw [if_neg (by omega), if_neg h0]
theorem while_more {p : UInt8 → Bool} : ∀ {l : List UInt8} {k : Nat}, (∀ (j : Nat) y, j < k → l[j]? = some y → p y = true) → k ≤ l.length → k ≤ (l.takeWhile p).length
  | _, 0, _, _ => Nat.zero_le _
  | [], k + 1, _, h => by simp at h
  | b :: l, k + 1, h, hl => by
    rw [List.takeWhile_cons, h 0 b (by omega) rfl, if_pos rfl]
    simp only [List.length_cons] at hl ⊢
    have := while_more (l := l) (k := k) (fun j y hj hy => h (j + 1) y (by omega) (by simpa using hy)) (by omega)
    omega
theorem rname_le (s : List UInt8) : rname s ≤ s.length := by
  unfold rname
  have := nmGo_le s false
  split <;> omega
theorem rsch_le (s : List UInt8) : rsch s ≤ s.length := by
  rw [rsch_hd]
  by_cases h : hdB s = true
  · rw [if_pos h]; exact (List.takeWhile_prefix _).length_le
  · rw [if_neg h]; omega
set_option maxHeartbeats 40000000 in
set_option maxRecDepth 100000 in
theorem rhosted_is (s : ByteArray) (hs : s.size ≤ 2097152) (w : World) : Calls Tryz.prog 53 #[.string s] w (RdRet (rHost s.data.toList) w) := by
  obtain ⟨R, hR⟩ : ∃ R, rHost s.data.toList = R := ⟨_, rfl⟩
  obtain ⟨n, hn⟩ : ∃ n, rsch s.data.toList = n := ⟨_, rfl⟩
  have HS := Lib.hid (fun W : World => rscheme_is s hs n hn W)
  have hns : n ≤ s.size := by rw [← hn, ← Ks.len_list]; exact rsch_le _
  have HE0 := Lib.hid (show ¬ (0 < n ∧ (s.data.toList.drop n).take 3 = [58, 47, 47]) → R = (rhN { kind := 5 } s.data.toList).bind rhT from fun h => hR.symm.trans (hostN hn h))
  have HE1 := Lib.hid (show 0 < n ∧ (s.data.toList.drop n).take 3 = [58, 47, 47] → R = (rhN { kind := 5, scheme := lowS (s.extract 0 n) } (s.extract (n + 3) s.size).data.toList).bind rhT from fun h => by
    rw [ext_take_mk, Ks.ext_drop]; exact hR.symm.trans (hostS hn h))
  rw [hR]
  clear hR hn
  have hst0 := Lib.hid (hst_new w)
  have hz2 : Has ((w.alloc (.cells ({} : Src).cs 46)).alloc (.cells ({} : Src).cs 46)) (w.heap.size + 1) (.cells ({} : Src).cs 46) := by
    have := Has.new (w.alloc (.cells ({} : Src).cs 46)) (.cells ({} : Src).cs 46)
    rw [World.size_alloc] at this
    exact this
  obtain ⟨X, hX⟩ : ∃ X, (w.alloc (.cells #[.int .u8 0, .string ⟨#[]⟩, .string ⟨#[]⟩, .bool false, .int .i64 0, .bool false, .bool false, .string ⟨#[]⟩] 46)).alloc (.cells #[.int .u8 0, .string ⟨#[]⟩, .string ⟨#[]⟩, .bool false, .int .i64 0, .bool false, .bool false, .string ⟨#[]⟩] 46) = X := ⟨_, rfl⟩
  rw [show (w.alloc (.cells ({} : Src).cs 46)).alloc (.cells ({} : Src).cs 46) = X from hX] at hst0 hz2
  have HZ := Lib.hid hz2
  clear hz2
  have z10 := HZ.out.cell 0 rfl; have z11 := HZ.out.cell 1 rfl; have z12 := HZ.out.cell 2 rfl; have z13 := HZ.out.cell 3 rfl; have z14 := HZ.out.cell 4 rfl; have z15 := HZ.out.cell 5 rfl; have z16 := HZ.out.cell 6 rfl; have z17 := HZ.out.cell 7 rfl
  have f10 := HZ.out.free 0; have f11 := HZ.out.free 1; have f12 := HZ.out.free 2; have f13 := HZ.out.free 3; have f14 := HZ.out.free 4; have f15 := HZ.out.free 5; have f16 := HZ.out.free 6; have f17 := HZ.out.free 7
  go_enter Tryz.func53, Tryz.ntmps53
  go_upto_region 3 with (go_at_call 52; refine (HS.out _).mono ?_; rintro e w1 ⟨rfl, hw1⟩; have HT := Lib.hid (show HSt w { kind := 5 } w1 from hw1 ▸ hst0.out); clear hw1 z10 z11 z12 z13 z14 z15 z16 z17 f10 f11 f12 f13 f14 f15 f16 f17)
  clear hst0 HZ hX
  clear X
  go_cut [27] from 11 to 27 (fun s27 wc => ∃ b : Bool, s27 = .bool b ∧ Hid (TB b (0 < n ∧ (s.data.toList.drop n).take 3 = [58, 47, 47])) ∧ (b = true → n + 3 ≤ s.size) ∧ Hid (HSt w { kind := 5 } wc))
  case first =>
    by_cases h0 : 0 < n
    · have b1 : (0 : Int) < (n : Int) := by omega
      have b2 : decide ((0 : Int) < (n : Int)) = true := decide_eq_true b1
      have b3 : decide (0 < n) = true := decide_eq_true h0
      by_cases h3 : n + 3 ≤ s.size
      · have c1 : (n : Int) + 3 ≤ (s.size : Int) := by omega
        have c2 : decide ((n : Int) + 3 ≤ (s.size : Int)) = true := decide_eq_true c1
        have c4 : decide (n + 3 ≤ s.size) = true := decide_eq_true h3
        have ht : (s.extract n (n + 3)).toList = (s.data.toList.drop n).take 3 := by rw [Lib.extract_toList]; congr 1; omega
        have hnn : n ≤ n + 3 := by omega
        by_cases hc : (s.extract n (n + 3)).toList = [58, 47, 47]
        · have g1 : ((s.extract n (n + 3)).toList == [58, 47, 47]) = true := beq_iff_eq.2 hc
          have HF := Lib.hid (TB.t (A := (0 < n ∧ (s.data.toList.drop n).take 3 = [58, 47, 47])) ⟨h0, ht ▸ hc⟩)
          clear HE0 HE1 hc ht HS
          go_wp2_with fail
          go_meet
          case rel => exact ⟨true, rfl, HF, fun _ => h3, HT⟩
        · have g1 : ((s.extract n (n + 3)).toList == [58, 47, 47]) = false := beq_eq_false_iff_ne.2 hc
          have HF := Lib.hid (TB.f (A := (0 < n ∧ (s.data.toList.drop n).take 3 = [58, 47, 47])) fun h => absurd (ht.trans h.2) hc)
          clear HE0 HE1 hc ht HS
          go_wp2_with fail
          go_meet
          case rel => exact ⟨false, rfl, HF, fun h => Bool.noConfusion h, HT⟩
      · have c1 : ¬ (n : Int) + 3 ≤ (s.size : Int) := by omega
        have c2 : decide ((n : Int) + 3 ≤ (s.size : Int)) = false := decide_eq_false c1
        have c4 : decide (n + 3 ≤ s.size) = false := decide_eq_false h3
        have HF := Lib.hid (TB.f (A := (0 < n ∧ (s.data.toList.drop n).take 3 = [58, 47, 47])) fun h => by have := congrArg List.length h.2; rw [List.length_take, List.length_drop, Ks.len_list] at this; simp at this; omega)
        clear HE0 HE1 HS
        go_wp2_with fail
        go_meet
        case rel => exact ⟨false, rfl, HF, fun h => Bool.noConfusion h, HT⟩
    · have b1 : ¬ (0 : Int) < (n : Int) := by omega
      have b2 : decide ((0 : Int) < (n : Int)) = false := decide_eq_false b1
      have b3 : decide (0 < n) = false := decide_eq_false h0
      have HF := Lib.hid (TB.f (A := (0 < n ∧ (s.data.toList.drop n).take 3 = [58, 47, 47])) fun h => absurd h.1 h0)
      clear HE0 HE1 HS
      go_wp2_with fail
      go_meet
      case rel => exact ⟨false, rfl, HF, fun h => Bool.noConfusion h, HT⟩
  case rest =>
  obtain ⟨b, rfl, HF, hb3, HT⟩ := hcut
  clear HS
  go_upto_if 27 with fail
  go_cut [0, 5] from 11 to 36 (fun s0 s5 wc => ∃ (s2 : ByteArray) (x : Src), s2.size ≤ 2097152 ∧ Hid (x.port = 0) ∧ s0 = .string s2 ∧ Hid (HSt w x wc) ∧ Hid (R = (rhN x s2.data.toList).bind rhT))
  case first =>
    cases b with
    | true =>
      have h3 := hb3 rfl
      have HE := Lib.hid (HE1.out (HF.out.1 rfl))
      have HL := Lib.hid (fun W : World => rlower_is (s.extract 0 n) (by rw [ByteArray.size_extract]; omega) W)
      have c1 : (n : Int) + 3 ≤ (s.size : Int) := by omega
      have c3 : (n : Int) ≤ (s.size : Int) := by omega
      clear HE0 HE1 hb3 HF
      go_wp2_with (go_at_call 41; refine (HL.out _).mono ?_; rintro e w2 ⟨rfl, hb2⟩; have HT2 := Lib.hid (HT.out.to hb2); clear hb2; have z12 := HT2.out.hx.cell 2 rfl; have f12 := HT2.out.hx.free 2)
      go_meet
      case rel => exact ⟨s.extract (n + 3) s.size, { kind := 5, scheme := lowS (s.extract 0 n) }, Nat.le_trans (ext_size _ _) hs, Lib.hid rfl, rfl, Lib.hid (HT2.out.set _ 2 _ (has_scheme _ HT2.out.hx)), HE⟩
    | false =>
      have HE := Lib.hid (HE0.out (fun h => by cases HF.out.2 h))
      clear HE0 HE1 hb3 HF
      go_wp2_with fail
      go_meet
      case rel => exact ⟨s, { kind := 5 }, hs, Lib.hid rfl, rfl, HT, HE⟩
  case rest =>
  obtain ⟨s2, x, hs2, hxp, rfl, HX, HE⟩ := hcut
  clear HE0 HE1 HT HF hb3 hns hs

  go_upto_region 6 with fail
  go_cut [43] from 37 to 43 (fun sb wc => ∃ b : Bool, sb = .bool b ∧ Hid (TB b (s2.data.toList[0]? = some 42)) ∧ (b = true → 0 < s2.size) ∧ Hid (HSt w x wc))
  case first =>
    skip
    by_cases he : s2.toList = []
    · have g1 : (s2.toList == []) = true := beq_iff_eq.2 he
      have g2 : (s2.toList != []) = false := by rw [bne, g1]; rfl
      have HF := Lib.hid (TB.f (A := s2.data.toList[0]? = some 42) fun h => by rw [empty_list he] at h; cases h)
      clear he
      go_wp2_with fail
      go_meet
      case rel => exact ⟨false, rfl, HF, fun h => Bool.noConfusion h, HX⟩
    · have g1 : (s2.toList == []) = false := beq_eq_false_iff_ne.2 he
      have g2 : (s2.toList != []) = true := by rw [bne, g1]; rfl
      have hp := full_size he
      have e0 := get0 s2 hp
      have i0 : (0 : Int) < (s2.size : Int) := by omega
      by_cases hc : s2[0] = 42
      · have q0 := byte_eq 42 rfl hc
        have HF := Lib.hid (TB.t (A := s2.data.toList[0]? = some 42) (by rw [e0, hc]))
        clear he e0 hc
        go_wp2_with fail
        go_meet
        case rel => exact ⟨true, rfl, HF, fun _ => hp, HX⟩
      · have q0 := byte_ne 42 rfl hc
        have HF := Lib.hid (TB.f (A := s2.data.toList[0]? = some 42) fun h => by rw [e0] at h; exact absurd (Option.some.inj h) hc)
        clear he e0 hc
        go_wp2_with fail
        go_meet
        case rel => exact ⟨false, rfl, HF, fun h => Bool.noConfusion h, HX⟩
  case rest =>
  clear HX
  obtain ⟨b, rfl, HF, hp, HX⟩ := hcut
  have HN0 := Lib.hid (fun (h : s2.data.toList[0]? ≠ some 42) => HE.out.trans (nameN x h))
  have HN1 := Lib.hid (fun (h : s2.data.toList[0]? = some 42) (h1 : s2.data.toList[1]? ≠ some 46) => HE.out.trans (nameW x h h1))
  have HN2 := Lib.hid (fun (h : s2.data.toList[0]? = some 42) (h1 : s2.data.toList[1]? = some 46) => HE.out.trans (nameD x h h1))
  clear HE
  go_upto_if 43 with fail
  go_cut [0, 5] from 37 to 59 (fun s0 s5 wc => ∃ (s3 : ByteArray) (m : Int) (x : Src), s3.size ≤ 2097152 ∧ m ≤ s3.size ∧ Hid (x.port = 0) ∧ s0 = .string s3 ∧ s5 = .int .i64 m ∧ Hid (HSt w x wc) ∧ Hid (R = nmT x m s3.data.toList))
  case first =>
    cases b with
    | false =>
      obtain ⟨m, hm⟩ : ∃ m, rname s2.data.toList = m := ⟨_, rfl⟩
      have HNM := Lib.hid (fun W : World => rname_is s2 hs2 m hm W)
      have HE := Lib.hid (HN0.out (fun h => Bool.noConfusion (HF.out.2 h)))
      rw [hm] at HE
      have hms : m ≤ s2.size := by rw [← hm, ← Ks.len_list]; exact rname_le _
      clear hm HN0 HN1 HN2 HF hp
      go_wp2_with (go_at_call 75; refine (HNM.out _).mono ?_; rintro e w2 ⟨rfl, rfl⟩)
      go_meet
      case rel => exact ⟨s2, m, x, hs2, hms, hxp, rfl, rfl, HX, HE⟩
    | true =>
      have hp0 := hp rfl
      have hst := HF.out.1 rfl
      have HN1 := Lib.hid (HN1.out hst)
      have HN2 := Lib.hid (HN2.out hst)
      have i1 : (1 : Int) ≤ (s2.size : Int) := by omega
      have i2 : 1 ≤ s2.size := hp0
      obtain ⟨d, hd⟩ : ∃ d, s2.extract 1 s2.size = d := ⟨_, rfl⟩
      have hdl : d.data.toList = s2.data.toList.drop 1 := by rw [← hd, Ks.ext_drop]
      have hd0 : s2.data.toList[1]? = d.data.toList[0]? := by rw [hdl, List.getElem?_drop]
      have hd2 : s2.data.toList.drop 2 = d.data.toList.drop 1 := by rw [hdl, List.drop_drop]
      have hds : d.size ≤ 2097152 := by rw [← hd]; exact Nat.le_trans (ext_size _ _) hs2
      rw [hd0] at HN1 HN2
      rw [← hdl] at HN1
      rw [hd2] at HN2
      have z13 := HX.out.hx.cell 3 rfl
      have f13 := HX.out.hx.free 3
      have HY := Lib.hid (HX.out.set _ 3 _ (has_wild true HX.out.hx))
      clear HN0 hp hst hdl hd0 hd2 HX HF
      by_cases he : d.toList = []
      · have g1 : (d.toList == []) = true := beq_iff_eq.2 he
        have g2 : (d.toList != []) = false := by rw [bne, g1]; rfl
        have HE := Lib.hid (HN1.out (by rw [empty_list he]; exact fun h => by cases h))
        clear he HN1 HN2
        go_wp2_with fail
        go_meet
        case rel => exact ⟨d, 0, { x with wild := true }, hds, by omega, hxp, rfl, rfl, HY, HE⟩
      · have g1 : (d.toList == []) = false := beq_eq_false_iff_ne.2 he
        have g2 : (d.toList != []) = true := by rw [bne, g1]; rfl
        have hpd := full_size he
        have e0 := get0 d hpd
        have i0 : (0 : Int) < (d.size : Int) := by omega
        by_cases hc : d[0] = 46
        · have q0 := byte_eq 46 rfl hc
          obtain ⟨m, hm⟩ : ∃ m, rname (d.extract 1 d.size).data.toList = m := ⟨_, rfl⟩
          have hs4 : (d.extract 1 d.size).size ≤ 2097152 := Nat.le_trans (ext_size _ _) hds
          have HNM := Lib.hid (fun W : World => rname_is (d.extract 1 d.size) hs4 m hm W)
          have HE := Lib.hid (HN2.out (by rw [e0, hc]))
          rw [← Ks.ext_drop, hm] at HE
          have hms : m ≤ (d.extract 1 d.size).size := by rw [← hm, ← Ks.len_list]; exact rname_le _
          have i3 : (1 : Int) ≤ (d.size : Int) := by omega
          have i4 : 1 ≤ d.size := hpd
          clear he e0 hc HN1 HN2 hm
          go_wp2_with (go_at_call 75; refine (HNM.out _).mono ?_; rintro e w2 ⟨rfl, rfl⟩)
          go_meet
          case rel => exact ⟨d.extract 1 d.size, m, { x with wild := true }, hs4, hms, hxp, rfl, rfl, HY, HE⟩
        · have q0 := byte_ne 46 rfl hc
          have HE := Lib.hid (HN1.out (by rw [e0]; exact fun h => hc (Option.some.inj h)))
          clear he e0 hc HN1 HN2
          go_wp2_with fail
          go_meet
          case rel => exact ⟨d, 0, { x with wild := true }, hds, by omega, hxp, rfl, rfl, HY, HE⟩
  case rest =>
  clear HX HN0 HN1 HN2 HF hp hs2
  obtain ⟨s3, m, x, hs3, hm, hxp, rfl, rfl, HX, HE⟩ := hcut
  by_cases hm0 : m < 0
  · have a2 : decide (m < 0) = true := decide_eq_true hm0
    have HNO := Lib.hid (show R = none from HE.out.trans (if_pos hm0))
    clear HE
    have z10 : wc.cell? ⟨w.heap.size + 1, 0, none⟩ = some (.int .u8 x.kind) := HX.out.hx.cell 0 rfl; have z11 : wc.cell? ⟨w.heap.size + 1, 1, none⟩ = some (.string x.text) := HX.out.hx.cell 1 rfl; have z12 : wc.cell? ⟨w.heap.size + 1, 2, none⟩ = some (.string x.scheme) := HX.out.hx.cell 2 rfl; have z13 : wc.cell? ⟨w.heap.size + 1, 3, none⟩ = some (.bool x.wild) := HX.out.hx.cell 3 rfl; have z14 : wc.cell? ⟨w.heap.size + 1, 4, none⟩ = some (.int .i64 x.port) := HX.out.hx.cell 4 rfl; have z15 : wc.cell? ⟨w.heap.size + 1, 5, none⟩ = some (.bool x.hasPort) := HX.out.hx.cell 5 rfl; have z16 : wc.cell? ⟨w.heap.size + 1, 6, none⟩ = some (.bool x.anyPort) := HX.out.hx.cell 6 rfl; have z17 : wc.cell? ⟨w.heap.size + 1, 7, none⟩ = some (.string x.path) := HX.out.hx.cell 7 rfl
    have z0 : wc.cell? ⟨w.heap.size, 0, none⟩ = some (.int .u8 0) := HX.out.hr.cell 0 rfl; have z1 : wc.cell? ⟨w.heap.size, 1, none⟩ = some (.string ⟨#[]⟩) := HX.out.hr.cell 1 rfl; have z2 : wc.cell? ⟨w.heap.size, 2, none⟩ = some (.string ⟨#[]⟩) := HX.out.hr.cell 2 rfl; have z3 : wc.cell? ⟨w.heap.size, 3, none⟩ = some (.bool false) := HX.out.hr.cell 3 rfl; have z4 : wc.cell? ⟨w.heap.size, 4, none⟩ = some (.int .i64 0) := HX.out.hr.cell 4 rfl; have z5 : wc.cell? ⟨w.heap.size, 5, none⟩ = some (.bool false) := HX.out.hr.cell 5 rfl; have z6 : wc.cell? ⟨w.heap.size, 6, none⟩ = some (.bool false) := HX.out.hr.cell 6 rfl; have z7 : wc.cell? ⟨w.heap.size, 7, none⟩ = some (.string ⟨#[]⟩) := HX.out.hr.cell 7 rfl
    have f0 := HX.out.hr.free 0; have f1 := HX.out.hr.free 1; have f2 := HX.out.hr.free 2; have f3 := HX.out.hr.free 3; have f4 := HX.out.hr.free 4; have f5 := HX.out.hr.free 5; have f6 := HX.out.hr.free 6; have f7 := HX.out.hr.free 7
    go_wp2_with fail
    show bodyPost _ _ _ _ _ (st8 wc w.heap.size x)
    rw [HNO.out]
    exact bodyPost_ret (ret46 (p := 2) (t2 := 3) rfl _ _ w.heap.size x (.bool false) rfl rfl (st8_has (x := x) HX.out.hr)) rfl (src_done x false rfl HX.out.hb (fun y hy => by cases hy))
  have a2 : decide (m < 0) = false := decide_eq_false hm0
  obtain ⟨q, rfl⟩ : ∃ q : Nat, m = q := ⟨m.toNat, by omega⟩
  have hq : q ≤ s3.size := by omega
  have HL := Lib.hid (fun W : World => rlower_is (s3.extract 0 q) (by rw [ByteArray.size_extract]; omega) W)
  have HE := Lib.hid (show R = rhT ({ x with text := lowS (s3.extract 0 q) }, (s3.extract q s3.size).data.toList) from by
    rw [ext_take_mk, Ks.ext_drop]; exact HE.out.trans (if_neg hm0))
  have hs4 : (s3.extract q s3.size).size ≤ 2097152 := Nat.le_trans (ext_size _ _) hs3
  go_upto_region 18 with (go_at_call 41; refine (HL.out _).mono ?_; rintro e w2 ⟨rfl, hb2⟩; have HT2 := Lib.hid (HX.out.to hb2); clear hb2; have z11 := HT2.out.hx.cell 1 rfl; have f11 := HT2.out.hx.free 1)
  have HX := Lib.hid (HT2.out.set _ 1 _ (has_text (lowS (s3.extract 0 q)) HT2.out.hx))
  clear HT2 z11 f11 HL hm hm0 a2
  generalize lowS (s3.extract 0 q) = lw at *
  generalize w2.setCell ⟨w.heap.size + 1, 1, none⟩ (.string lw) = W4 at *
  obtain ⟨x4, hx4⟩ : ∃ x4, x4 = ({ x with text := lw } : Src) := ⟨_, rfl⟩
  rw [← hx4] at HX HE
  have hxp := Lib.hid (show x4.port = 0 from by rw [hx4]; exact hxp.out)
  clear hx4 hq
  generalize s3.extract q s3.size = s4 at *
  clear hs3
  go_cut [77] from 71 to 77 (fun sb wc => ∃ b : Bool, sb = .bool b ∧ Hid (TB b (s4.data.toList[0]? = some 58)) ∧ (b = true → 0 < s4.size) ∧ Hid (HSt w x4 wc))
  case first =>
    skip
    by_cases he : s4.toList = []
    · have g1 : (s4.toList == []) = true := beq_iff_eq.2 he
      have g2 : (s4.toList != []) = false := by rw [bne, g1]; rfl
      have HF := Lib.hid (TB.f (A := s4.data.toList[0]? = some 58) fun h => by rw [empty_list he] at h; cases h)
      clear he
      go_wp2_with fail
      go_meet
      case rel => exact ⟨false, rfl, HF, fun h => Bool.noConfusion h, HX⟩
    · have g1 : (s4.toList == []) = false := beq_eq_false_iff_ne.2 he
      have g2 : (s4.toList != []) = true := by rw [bne, g1]; rfl
      have hp := full_size he
      have e0 := get0 s4 hp
      have i0 : (0 : Int) < (s4.size : Int) := by omega
      by_cases hc : s4[0] = 58
      · have q0 := byte_eq 58 rfl hc
        have HF := Lib.hid (TB.t (A := s4.data.toList[0]? = some 58) (by rw [e0, hc]))
        clear he e0 hc
        go_wp2_with fail
        go_meet
        case rel => exact ⟨true, rfl, HF, fun _ => hp, HX⟩
      · have q0 := byte_ne 58 rfl hc
        have HF := Lib.hid (TB.f (A := s4.data.toList[0]? = some 58) fun h => by rw [e0] at h; exact absurd (Option.some.inj h) hc)
        clear he e0 hc
        go_wp2_with fail
        go_meet
        case rel => exact ⟨false, rfl, HF, fun h => Bool.noConfusion h, HX⟩
  case rest =>
  clear HX
  obtain ⟨b, rfl, HF, hp, HX⟩ := hcut
  have HN0 := Lib.hid (fun (h : s4.data.toList[0]? ≠ some 58) => HE.out.trans (portN x4 h))
  have HN1 := Lib.hid (fun (h : s4.data.toList[0]? = some 58) => HE.out.trans (portD x4 h))
  clear HE
  go_upto_if 77 with fail
  go_cut [0, 6] from 71 to 123 (fun s0 s6 wc => ∃ (s5 : ByteArray) (x : Src), s5.size ≤ 2097152 ∧ s0 = .string s5 ∧ Hid (HSt w x wc) ∧ Hid (R = rhPath x s5.data.toList))
  case first =>
    cases b with
    | false =>
      have HE := Lib.hid (HN0.out (fun h => Bool.noConfusion (HF.out.2 h)))
      clear HN0 HN1 HF hp
      go_wp2_with fail
      go_meet
      case rel => exact ⟨s4, x4, hs4, rfl, HX, HE⟩
    | true =>
      have hp0 := hp rfl
      have HE := Lib.hid (HN1.out (HF.out.1 rfl))
      have i1 : (1 : Int) ≤ (s4.size : Int) := by omega
      have i2 : 1 ≤ s4.size := hp0
      have hds : (s4.extract 1 s4.size).size ≤ 2097152 := Nat.le_trans (ext_size _ _) hs4
      rw [← Ks.ext_drop] at HE
      clear HN0 HN1 HF hp
      go_wp2_with fail
      generalize s4.extract 1 s4.size = d at *
      have hx0 : ({ x4 with port := (decV (d.data.toList.take 0) : Nat) } : Src) = x4 := by
        have h := hxp.out
        obtain ⟨_, _, _, _, _, _, _, _⟩ := x4
        simp only at h
        subst h
        rfl
      rw [← hx0] at HX
      have hx0 := Lib.hid hx0
      go_loopw [6] (fun i wr => ∃ k : Nat, k ≤ d.size ∧ k ≤ 5 ∧ i = .int .i64 k ∧ Hid (∀ (j : Nat) y, j < k → d.data.toList[j]? = some y → digB y = true) ∧ Hid (HSt w { x4 with port := (decV (d.data.toList.take k) : Nat) } wr)) (fun i _ => d.size - (intOf i).toNat)
      case atStart => exact ⟨0, by omega, by omega, rfl, Lib.hid (fun j y hj => by omega), HX⟩
      case round =>
        obtain ⟨k, hk, hk5, rfl, HD, HX⟩ := hrel
        by_cases hlt : k < d.size
        · have i1 : (k : Int) < (d.size : Int) := by omega
          have i2 : decide ((k : Int) < (d.size : Int)) = true := decide_eq_true i1
          have i3 : decide (k < d.size) = true := decide_eq_true hlt
          have e0 : d.data.toList[k]? = some d[k] := by rw [getT (by rw [Ks.len_list]; omega)]; rfl
          cases hdg : digB d[k] with
          | true =>
            have HDG := Lib.hid (fun W : World => rdigit_is d[k] true hdg W)
            have hkl : k < d.data.toList.length := by rw [Ks.len_list]; exact hlt
            have hsn : d.data.toList.take (k + 1) = d.data.toList.take k ++ [d[k]] := by rw [List.take_succ_eq_append_getElem hkl]; rfl
            have hall : (d.data.toList.take k).all digB = true := List.all_eq_true.2 fun y hy => by
              obtain ⟨j, hj, rfl⟩ := List.getElem_of_mem hy
              rw [List.length_take] at hj
              exact HD.out j _ (by omega) (by rw [List.getElem_take]; exact getT (by omega))
            have hp : decV (d.data.toList.take k) < 100000 := by
              have h1 := decV_lt _ hall
              rw [List.length_take, Nat.min_eq_left (by omega)] at h1
              exact Nat.lt_of_lt_of_le h1 (Nat.pow_le_pow_right (by omega) hk5)
            have hnew : decV (d.data.toList.take (k + 1)) = decV (d.data.toList.take k) * 10 + (d[k].toNat - 48) := by rw [hsn, decV_snoc]
            have hdd : 48 ≤ d[k].toNat ∧ d[k].toNat ≤ 57 := by
              unfold digB at hdg
              rw [Bool.and_eq_true] at hdg
              exact ⟨of_decide_eq_true hdg.1, of_decide_eq_true hdg.2⟩
            obtain ⟨hd1, hd2⟩ := hdd
            have HDN := Lib.hid (show ∀ (j : Nat) y, j < k + 1 → d.data.toList[j]? = some y → digB y = true from fun j y hj hy => by
              by_cases hjk : j = k
              · subst hjk; rw [e0] at hy; cases hy; exact hdg
              · exact HD.out j y (by omega) hy)
            have hnew' := Lib.hid hnew
            clear HD hsn hall e0 hdg hnew
            generalize hpv : decV (d.data.toList.take k) = p at *
            have z14 : wr.cell? ⟨w.heap.size + 1, 4, none⟩ = some (.int .i64 p) := HX.out.hx.cell 4 rfl
            have f14 := HX.out.hx.free 4
            by_cases hk4 : k = 5
            · have HNO := Lib.hid (show R = none from by
                rw [HE.out]
                unfold poT
                rw [if_pos (by have := while_more HDN.out (by omega); omega)])
              have j1 : (5 : Int) < (k : Int) + 1 := by omega
              have j2 : decide ((5 : Int) < (k : Int) + 1) = true := decide_eq_true j1
              clear HE HDN hnew' hk5 hxp hx0 hpv hk4
              go_wp2_with (go_at_call 74; refine (HDG.out _).mono ?_; rintro e w1 ⟨rfl, hw1⟩; obtain rfl : wr = w1 := hw1.symm; clear hw1)
              go_region
              go_upto_region 25 with fail
              have HX5 := Lib.hid ((HX.out.set _ 4 _ (has_port (10 * (p : Int) + ((d[k].toNat : Int) - 48)) HX.out.hx)).drew)
              clear z14 f14 HX
              obtain ⟨x5, hx5⟩ : ∃ x5, x5 = ({ ({ x4 with port := (p : Int) } : Src) with port := 10 * (p : Int) + ((d[k].toNat : Int) - 48) } : Src) := ⟨_, rfl⟩
              rw [← hx5] at HX5
              clear hx5
              generalize (wr.setCell ⟨w.heap.size + 1, 4, none⟩ (.int .i64 (10 * (p : Int) + ((d[k].toNat : Int) - 48)))).drew = W5 at *
              have z10 : W5.cell? ⟨w.heap.size + 1, 0, none⟩ = some (.int .u8 x5.kind) := HX5.out.hx.cell 0 rfl; have z11 : W5.cell? ⟨w.heap.size + 1, 1, none⟩ = some (.string x5.text) := HX5.out.hx.cell 1 rfl; have z12 : W5.cell? ⟨w.heap.size + 1, 2, none⟩ = some (.string x5.scheme) := HX5.out.hx.cell 2 rfl; have z13 : W5.cell? ⟨w.heap.size + 1, 3, none⟩ = some (.bool x5.wild) := HX5.out.hx.cell 3 rfl; have z14 : W5.cell? ⟨w.heap.size + 1, 4, none⟩ = some (.int .i64 x5.port) := HX5.out.hx.cell 4 rfl; have z15 : W5.cell? ⟨w.heap.size + 1, 5, none⟩ = some (.bool x5.hasPort) := HX5.out.hx.cell 5 rfl; have z16 : W5.cell? ⟨w.heap.size + 1, 6, none⟩ = some (.bool x5.anyPort) := HX5.out.hx.cell 6 rfl; have z17 : W5.cell? ⟨w.heap.size + 1, 7, none⟩ = some (.string x5.path) := HX5.out.hx.cell 7 rfl
              have z0 : W5.cell? ⟨w.heap.size, 0, none⟩ = some (.int .u8 0) := HX5.out.hr.cell 0 rfl; have z1 : W5.cell? ⟨w.heap.size, 1, none⟩ = some (.string ⟨#[]⟩) := HX5.out.hr.cell 1 rfl; have z2 : W5.cell? ⟨w.heap.size, 2, none⟩ = some (.string ⟨#[]⟩) := HX5.out.hr.cell 2 rfl; have z3 : W5.cell? ⟨w.heap.size, 3, none⟩ = some (.bool false) := HX5.out.hr.cell 3 rfl; have z4 : W5.cell? ⟨w.heap.size, 4, none⟩ = some (.int .i64 0) := HX5.out.hr.cell 4 rfl; have z5 : W5.cell? ⟨w.heap.size, 5, none⟩ = some (.bool false) := HX5.out.hr.cell 5 rfl; have z6 : W5.cell? ⟨w.heap.size, 6, none⟩ = some (.bool false) := HX5.out.hr.cell 6 rfl; have z7 : W5.cell? ⟨w.heap.size, 7, none⟩ = some (.string ⟨#[]⟩) := HX5.out.hr.cell 7 rfl
              have f0 := HX5.out.hr.free 0; have f1 := HX5.out.hr.free 1; have f2 := HX5.out.hr.free 2; have f3 := HX5.out.hr.free 3; have f4 := HX5.out.hr.free 4; have f5 := HX5.out.hr.free 5; have f6 := HX5.out.hr.free 6; have f7 := HX5.out.hr.free 7
              go_wp2_with fail
              show bodyPost _ _ _ _ _ (st8 W5 w.heap.size x5)
              rw [HNO.out]
              exact bodyPost_ret (ret46 (p := 2) (t2 := 3) rfl _ _ w.heap.size x5 (.bool false) rfl rfl (st8_has (x := x5) HX5.out.hr)) rfl (src_done x5 false rfl HX5.out.hb (fun y hy => by cases hy))
            · have j1 : ¬ (5 : Int) < (k : Int) + 1 := by omega
              have j2 : decide ((5 : Int) < (k : Int) + 1) = false := decide_eq_false j1
              go_wp2_with (go_at_call 74; refine (HDG.out _).mono ?_; rintro e w1 ⟨rfl, hw1⟩; obtain rfl : wr = w1 := hw1.symm; clear hw1)
              go_region
              go_wp2_with fail
              have hv : (10 * (p : Int) + ((d[k].toNat : Int) - 48)) = ((decV (d.data.toList.take (k + 1)) : Nat) : Int) := by rw [hnew'.out]; omega
              have HX5 := Lib.hid ((HX.out.set _ 4 _ (has_port (10 * (p : Int) + ((d[k].toNat : Int) - 48)) HX.out.hx)).drew)
              rw [hv] at HX5
              rw [hv]
              exact ⟨⟨k + 1, by omega, by omega, by go_num, HDN, HX5⟩, by simp [intOf]; omega⟩
          | false =>
            have HDG := Lib.hid (fun W : World => rdigit_is d[k] false hdg W)
            have HK := Lib.hid (show (d.data.toList.takeWhile digB).length = k from tw_len HD.out (.inr ⟨_, e0, hdg⟩))
            clear HD hdg
            have HE := Lib.hid (show R = poT x4 k d.data.toList from by rw [← HK.out]; exact HE.out)
            clear HK
            by_cases hk00 : k = 0
            · have hk0 : ((k : Int) == 0) = true := by rw [hk00]; rfl
              have HX := Lib.hid (show HSt w x4 wr from by
                have h := HX.out
                rw [hk00, hx0.out] at h; exact h)
              have HE := Lib.hid (show R = if d.data.toList[0]? = some 42 then rhPath { x4 with anyPort := true } (d.data.toList.drop 1) else none from by
                rw [← po_zero, ← hk00]; exact HE.out)
              have hp0 : 0 < d.size := by omega
              have e1 := get0 d hp0
              have i0 : (0 : Int) < (d.size : Int) := by omega
              have g1 : (d.toList == []) = false := beq_eq_false_iff_ne.2 (fun h => by rw [empty_list h] at e1; cases e1)
              clear hk00 e0
              by_cases hc : d[0] = 42
              · have q0 := byte_nf 42 rfl hc
                have q1 := byte_eq 42 rfl hc
                have HE := Lib.hid (show R = rhPath { x4 with anyPort := true } (d.extract 1 d.size).data.toList from by rw [Ks.ext_drop]; exact HE.out.trans (if_pos (by rw [e1, hc])))
                have z14 : wr.cell? ⟨w.heap.size + 1, 4, none⟩ = some (.int .i64 0) := by
                  have := HX.out.hx.cell 4 (v := .int .i64 x4.port) rfl
                  rw [hxp.out] at this; exact this
                have z16 : wr.cell? ⟨w.heap.size + 1, 6, none⟩ = some (.bool x4.anyPort) := HX.out.hx.cell 6 rfl
                have f16 := HX.out.hx.free 6
                have f14 := HX.out.hx.free 4
                have i4 : 1 ≤ d.size := by omega
                have i5 : (1 : Int) ≤ (d.size : Int) := by omega
                have hs5 : (d.extract 1 d.size).size ≤ 2097152 := Nat.le_trans (ext_size _ _) hds
                have HY := Lib.hid (HX.out.set _ 6 _ (has_any HX.out.hx))
                clear e1 hc hx0 hxp
                go_wp2_with (go_at_call 74; refine (HDG.out _).mono ?_; rintro e w1 ⟨rfl, hw1⟩; obtain rfl : wr = w1 := hw1.symm; clear hw1)
                go_meet
                case rel => exact ⟨d.extract 1 d.size, { x4 with anyPort := true }, hs5, rfl, HY, HE⟩
              · have q0 := byte_nt 42 rfl hc
                have q1 := byte_ne 42 rfl hc
                have HNO := Lib.hid (show R = none from HE.out.trans (if_neg (by rw [e1]; exact fun h => hc (Option.some.inj h))))
                clear e1 hc HE hx0 hxp
                have z10 : wr.cell? ⟨w.heap.size + 1, 0, none⟩ = some (.int .u8 x4.kind) := HX.out.hx.cell 0 rfl; have z11 : wr.cell? ⟨w.heap.size + 1, 1, none⟩ = some (.string x4.text) := HX.out.hx.cell 1 rfl; have z12 : wr.cell? ⟨w.heap.size + 1, 2, none⟩ = some (.string x4.scheme) := HX.out.hx.cell 2 rfl; have z13 : wr.cell? ⟨w.heap.size + 1, 3, none⟩ = some (.bool x4.wild) := HX.out.hx.cell 3 rfl; have z14 : wr.cell? ⟨w.heap.size + 1, 4, none⟩ = some (.int .i64 x4.port) := HX.out.hx.cell 4 rfl; have z15 : wr.cell? ⟨w.heap.size + 1, 5, none⟩ = some (.bool x4.hasPort) := HX.out.hx.cell 5 rfl; have z16 : wr.cell? ⟨w.heap.size + 1, 6, none⟩ = some (.bool x4.anyPort) := HX.out.hx.cell 6 rfl; have z17 : wr.cell? ⟨w.heap.size + 1, 7, none⟩ = some (.string x4.path) := HX.out.hx.cell 7 rfl
                have z0 : wr.cell? ⟨w.heap.size, 0, none⟩ = some (.int .u8 0) := HX.out.hr.cell 0 rfl; have z1 : wr.cell? ⟨w.heap.size, 1, none⟩ = some (.string ⟨#[]⟩) := HX.out.hr.cell 1 rfl; have z2 : wr.cell? ⟨w.heap.size, 2, none⟩ = some (.string ⟨#[]⟩) := HX.out.hr.cell 2 rfl; have z3 : wr.cell? ⟨w.heap.size, 3, none⟩ = some (.bool false) := HX.out.hr.cell 3 rfl; have z4 : wr.cell? ⟨w.heap.size, 4, none⟩ = some (.int .i64 0) := HX.out.hr.cell 4 rfl; have z5 : wr.cell? ⟨w.heap.size, 5, none⟩ = some (.bool false) := HX.out.hr.cell 5 rfl; have z6 : wr.cell? ⟨w.heap.size, 6, none⟩ = some (.bool false) := HX.out.hr.cell 6 rfl; have z7 : wr.cell? ⟨w.heap.size, 7, none⟩ = some (.string ⟨#[]⟩) := HX.out.hr.cell 7 rfl
                have f0 := HX.out.hr.free 0; have f1 := HX.out.hr.free 1; have f2 := HX.out.hr.free 2; have f3 := HX.out.hr.free 3; have f4 := HX.out.hr.free 4; have f5 := HX.out.hr.free 5; have f6 := HX.out.hr.free 6; have f7 := HX.out.hr.free 7
                go_wp2_with (go_at_call 74; refine (HDG.out _).mono ?_; rintro e w1 ⟨rfl, hw1⟩; obtain rfl : wr = w1 := hw1.symm; clear hw1)
                show bodyPost _ _ _ _ _ (st8 wr w.heap.size x4)
                rw [HNO.out]
                exact bodyPost_ret (ret46 (p := 2) (t2 := 3) rfl _ _ w.heap.size x4 (.bool false) rfl rfl (st8_has (x := x4) HX.out.hr)) rfl (src_done x4 false rfl HX.out.hb (fun y hy => by cases hy))
            · have hk0 : ((k : Int) == 0) = false := beq_eq_false_iff_ne.2 (by omega)
              have HE := Lib.hid (HE.out.trans (po_more x4 d.data.toList hk00 hk5))
              rw [← Ks.ext_drop] at HE
              generalize decV (d.data.toList.take k) = p at *
              have z14 : wr.cell? ⟨w.heap.size + 1, 4, none⟩ = some (.int .i64 p) := HX.out.hx.cell 4 rfl
              have z15 : wr.cell? ⟨w.heap.size + 1, 5, none⟩ = some (.bool x4.hasPort) := HX.out.hx.cell 5 rfl
              have f15 := HX.out.hx.free 5
              have f14 := HX.out.hx.free 4
              have HY := Lib.hid (HX.out.set _ 5 _ (has_hasP HX.out.hx))
              have HY := Lib.hid (show HSt w { x4 with hasPort := true, port := (p : Int) } _ from HY.out)
              clear hk00 hx0 hxp
              clear e0
              have i4 : (k : Int) ≤ (d.size : Int) := by omega
              by_cases h6 : 65535 < p
              · have j1 : (65535 : Int) < (p : Int) := by omega
                have j2 : decide ((65535 : Int) < (p : Int)) = true := decide_eq_true j1
                have HNO := Lib.hid (HE.out.trans (if_pos h6))
                clear HE HX
                go_upto_region 33 with (go_at_call 74; refine (HDG.out _).mono ?_; rintro e w1 ⟨rfl, hw1⟩; obtain rfl : wr = w1 := hw1.symm; clear hw1)
                clear z14 z15 f14 f15
                obtain ⟨x5, hx5⟩ : ∃ x5, x5 = ({ x4 with hasPort := true, port := (p : Int) } : Src) := ⟨_, rfl⟩
                rw [← hx5] at HY
                clear hx5
                generalize wr.setCell ⟨w.heap.size + 1, 5, none⟩ (.bool true) = W5 at *
                have z10 : W5.cell? ⟨w.heap.size + 1, 0, none⟩ = some (.int .u8 x5.kind) := HY.out.hx.cell 0 rfl; have z11 : W5.cell? ⟨w.heap.size + 1, 1, none⟩ = some (.string x5.text) := HY.out.hx.cell 1 rfl; have z12 : W5.cell? ⟨w.heap.size + 1, 2, none⟩ = some (.string x5.scheme) := HY.out.hx.cell 2 rfl; have z13 : W5.cell? ⟨w.heap.size + 1, 3, none⟩ = some (.bool x5.wild) := HY.out.hx.cell 3 rfl; have z14 : W5.cell? ⟨w.heap.size + 1, 4, none⟩ = some (.int .i64 x5.port) := HY.out.hx.cell 4 rfl; have z15 : W5.cell? ⟨w.heap.size + 1, 5, none⟩ = some (.bool x5.hasPort) := HY.out.hx.cell 5 rfl; have z16 : W5.cell? ⟨w.heap.size + 1, 6, none⟩ = some (.bool x5.anyPort) := HY.out.hx.cell 6 rfl; have z17 : W5.cell? ⟨w.heap.size + 1, 7, none⟩ = some (.string x5.path) := HY.out.hx.cell 7 rfl
                have z0 : W5.cell? ⟨w.heap.size, 0, none⟩ = some (.int .u8 0) := HY.out.hr.cell 0 rfl; have z1 : W5.cell? ⟨w.heap.size, 1, none⟩ = some (.string ⟨#[]⟩) := HY.out.hr.cell 1 rfl; have z2 : W5.cell? ⟨w.heap.size, 2, none⟩ = some (.string ⟨#[]⟩) := HY.out.hr.cell 2 rfl; have z3 : W5.cell? ⟨w.heap.size, 3, none⟩ = some (.bool false) := HY.out.hr.cell 3 rfl; have z4 : W5.cell? ⟨w.heap.size, 4, none⟩ = some (.int .i64 0) := HY.out.hr.cell 4 rfl; have z5 : W5.cell? ⟨w.heap.size, 5, none⟩ = some (.bool false) := HY.out.hr.cell 5 rfl; have z6 : W5.cell? ⟨w.heap.size, 6, none⟩ = some (.bool false) := HY.out.hr.cell 6 rfl; have z7 : W5.cell? ⟨w.heap.size, 7, none⟩ = some (.string ⟨#[]⟩) := HY.out.hr.cell 7 rfl
                have f0 := HY.out.hr.free 0; have f1 := HY.out.hr.free 1; have f2 := HY.out.hr.free 2; have f3 := HY.out.hr.free 3; have f4 := HY.out.hr.free 4; have f5 := HY.out.hr.free 5; have f6 := HY.out.hr.free 6; have f7 := HY.out.hr.free 7
                go_wp2_with fail
                show bodyPost _ _ _ _ _ (st8 W5 w.heap.size x5)
                rw [HNO.out]
                exact bodyPost_ret (ret46 (p := 2) (t2 := 3) rfl _ _ w.heap.size x5 (.bool false) rfl rfl (st8_has (x := x5) HY.out.hr)) rfl (src_done x5 false rfl HY.out.hb (fun y hy => by cases hy))
              · have j1 : ¬ (65535 : Int) < (p : Int) := by omega
                have j2 : decide ((65535 : Int) < (p : Int)) = false := decide_eq_false j1
                have HE := Lib.hid (HE.out.trans (if_neg h6))
                have hs5 : (d.extract k d.size).size ≤ 2097152 := Nat.le_trans (ext_size _ _) hds
                clear HX
                go_wp2_with (go_at_call 74; refine (HDG.out _).mono ?_; rintro e w1 ⟨rfl, hw1⟩; obtain rfl : wr = w1 := hw1.symm; clear hw1)
                go_meet
                case rel => exact ⟨d.extract k d.size, { x4 with hasPort := true, port := (p : Int) }, hs5, rfl, HY, HE⟩
        · have i1 : ¬ (k : Int) < (d.size : Int) := by omega
          have i2 : decide ((k : Int) < (d.size : Int)) = false := decide_eq_false i1
          have i3 : decide (k < d.size) = false := decide_eq_false hlt
          have HK := Lib.hid (show (d.data.toList.takeWhile digB).length = k from tw_len HD.out (.inl (by rw [Ks.len_list]; omega)))
          clear HD
          have HE := Lib.hid (show R = poT x4 k d.data.toList from by rw [← HK.out]; exact HE.out)
          clear HK
          by_cases hk00 : k = 0
          · have hk0 : ((k : Int) == 0) = true := by rw [hk00]; rfl
            have HX := Lib.hid (show HSt w x4 wr from by
              have h := HX.out
              rw [hk00, hx0.out] at h; exact h)
            have HE := Lib.hid (show R = if d.data.toList[0]? = some 42 then rhPath { x4 with anyPort := true } (d.data.toList.drop 1) else none from by
              rw [← po_zero, ← hk00]; exact HE.out)
            have he : d.toList = [] := by
              rw [Lib.toList_data]; exact List.eq_nil_of_length_eq_zero (by rw [Ks.len_list]; omega)
            have g1 : (d.toList == []) = true := beq_iff_eq.2 he
            have HNO := Lib.hid (show R = none from HE.out.trans (if_neg (by rw [empty_list he]; exact fun h => by cases h)))
            clear hk00 he HE hx0 hxp
            have z10 : wr.cell? ⟨w.heap.size + 1, 0, none⟩ = some (.int .u8 x4.kind) := HX.out.hx.cell 0 rfl; have z11 : wr.cell? ⟨w.heap.size + 1, 1, none⟩ = some (.string x4.text) := HX.out.hx.cell 1 rfl; have z12 : wr.cell? ⟨w.heap.size + 1, 2, none⟩ = some (.string x4.scheme) := HX.out.hx.cell 2 rfl; have z13 : wr.cell? ⟨w.heap.size + 1, 3, none⟩ = some (.bool x4.wild) := HX.out.hx.cell 3 rfl; have z14 : wr.cell? ⟨w.heap.size + 1, 4, none⟩ = some (.int .i64 x4.port) := HX.out.hx.cell 4 rfl; have z15 : wr.cell? ⟨w.heap.size + 1, 5, none⟩ = some (.bool x4.hasPort) := HX.out.hx.cell 5 rfl; have z16 : wr.cell? ⟨w.heap.size + 1, 6, none⟩ = some (.bool x4.anyPort) := HX.out.hx.cell 6 rfl; have z17 : wr.cell? ⟨w.heap.size + 1, 7, none⟩ = some (.string x4.path) := HX.out.hx.cell 7 rfl
            have z0 : wr.cell? ⟨w.heap.size, 0, none⟩ = some (.int .u8 0) := HX.out.hr.cell 0 rfl; have z1 : wr.cell? ⟨w.heap.size, 1, none⟩ = some (.string ⟨#[]⟩) := HX.out.hr.cell 1 rfl; have z2 : wr.cell? ⟨w.heap.size, 2, none⟩ = some (.string ⟨#[]⟩) := HX.out.hr.cell 2 rfl; have z3 : wr.cell? ⟨w.heap.size, 3, none⟩ = some (.bool false) := HX.out.hr.cell 3 rfl; have z4 : wr.cell? ⟨w.heap.size, 4, none⟩ = some (.int .i64 0) := HX.out.hr.cell 4 rfl; have z5 : wr.cell? ⟨w.heap.size, 5, none⟩ = some (.bool false) := HX.out.hr.cell 5 rfl; have z6 : wr.cell? ⟨w.heap.size, 6, none⟩ = some (.bool false) := HX.out.hr.cell 6 rfl; have z7 : wr.cell? ⟨w.heap.size, 7, none⟩ = some (.string ⟨#[]⟩) := HX.out.hr.cell 7 rfl
            have f0 := HX.out.hr.free 0; have f1 := HX.out.hr.free 1; have f2 := HX.out.hr.free 2; have f3 := HX.out.hr.free 3; have f4 := HX.out.hr.free 4; have f5 := HX.out.hr.free 5; have f6 := HX.out.hr.free 6; have f7 := HX.out.hr.free 7
            go_wp2_with fail
            show bodyPost _ _ _ _ _ (st8 wr w.heap.size x4)
            rw [HNO.out]
            exact bodyPost_ret (ret46 (p := 2) (t2 := 3) rfl _ _ w.heap.size x4 (.bool false) rfl rfl (st8_has (x := x4) HX.out.hr)) rfl (src_done x4 false rfl HX.out.hb (fun y hy => by cases hy))
          · have hk0 : ((k : Int) == 0) = false := beq_eq_false_iff_ne.2 (by omega)
            have HE := Lib.hid (HE.out.trans (po_more x4 d.data.toList hk00 hk5))
            rw [← Ks.ext_drop] at HE
            generalize decV (d.data.toList.take k) = p at *
            have z14 : wr.cell? ⟨w.heap.size + 1, 4, none⟩ = some (.int .i64 p) := HX.out.hx.cell 4 rfl
            have z15 : wr.cell? ⟨w.heap.size + 1, 5, none⟩ = some (.bool x4.hasPort) := HX.out.hx.cell 5 rfl
            have f15 := HX.out.hx.free 5
            have f14 := HX.out.hx.free 4
            have HY := Lib.hid (HX.out.set _ 5 _ (has_hasP HX.out.hx))
            have HY := Lib.hid (show HSt w { x4 with hasPort := true, port := (p : Int) } _ from HY.out)
            clear hk00 hx0 hxp
            have i4 : (k : Int) ≤ (d.size : Int) := by omega
            by_cases h6 : 65535 < p
            · have j1 : (65535 : Int) < (p : Int) := by omega
              have j2 : decide ((65535 : Int) < (p : Int)) = true := decide_eq_true j1
              have HNO := Lib.hid (HE.out.trans (if_pos h6))
              clear HE HX
              go_upto_region 33 with fail
              clear z14 z15 f14 f15
              obtain ⟨x5, hx5⟩ : ∃ x5, x5 = ({ x4 with hasPort := true, port := (p : Int) } : Src) := ⟨_, rfl⟩
              rw [← hx5] at HY
              clear hx5
              generalize wr.setCell ⟨w.heap.size + 1, 5, none⟩ (.bool true) = W5 at *
              have z10 : W5.cell? ⟨w.heap.size + 1, 0, none⟩ = some (.int .u8 x5.kind) := HY.out.hx.cell 0 rfl; have z11 : W5.cell? ⟨w.heap.size + 1, 1, none⟩ = some (.string x5.text) := HY.out.hx.cell 1 rfl; have z12 : W5.cell? ⟨w.heap.size + 1, 2, none⟩ = some (.string x5.scheme) := HY.out.hx.cell 2 rfl; have z13 : W5.cell? ⟨w.heap.size + 1, 3, none⟩ = some (.bool x5.wild) := HY.out.hx.cell 3 rfl; have z14 : W5.cell? ⟨w.heap.size + 1, 4, none⟩ = some (.int .i64 x5.port) := HY.out.hx.cell 4 rfl; have z15 : W5.cell? ⟨w.heap.size + 1, 5, none⟩ = some (.bool x5.hasPort) := HY.out.hx.cell 5 rfl; have z16 : W5.cell? ⟨w.heap.size + 1, 6, none⟩ = some (.bool x5.anyPort) := HY.out.hx.cell 6 rfl; have z17 : W5.cell? ⟨w.heap.size + 1, 7, none⟩ = some (.string x5.path) := HY.out.hx.cell 7 rfl
              have z0 : W5.cell? ⟨w.heap.size, 0, none⟩ = some (.int .u8 0) := HY.out.hr.cell 0 rfl; have z1 : W5.cell? ⟨w.heap.size, 1, none⟩ = some (.string ⟨#[]⟩) := HY.out.hr.cell 1 rfl; have z2 : W5.cell? ⟨w.heap.size, 2, none⟩ = some (.string ⟨#[]⟩) := HY.out.hr.cell 2 rfl; have z3 : W5.cell? ⟨w.heap.size, 3, none⟩ = some (.bool false) := HY.out.hr.cell 3 rfl; have z4 : W5.cell? ⟨w.heap.size, 4, none⟩ = some (.int .i64 0) := HY.out.hr.cell 4 rfl; have z5 : W5.cell? ⟨w.heap.size, 5, none⟩ = some (.bool false) := HY.out.hr.cell 5 rfl; have z6 : W5.cell? ⟨w.heap.size, 6, none⟩ = some (.bool false) := HY.out.hr.cell 6 rfl; have z7 : W5.cell? ⟨w.heap.size, 7, none⟩ = some (.string ⟨#[]⟩) := HY.out.hr.cell 7 rfl
              have f0 := HY.out.hr.free 0; have f1 := HY.out.hr.free 1; have f2 := HY.out.hr.free 2; have f3 := HY.out.hr.free 3; have f4 := HY.out.hr.free 4; have f5 := HY.out.hr.free 5; have f6 := HY.out.hr.free 6; have f7 := HY.out.hr.free 7
              go_wp2_with fail
              show bodyPost _ _ _ _ _ (st8 W5 w.heap.size x5)
              rw [HNO.out]
              exact bodyPost_ret (ret46 (p := 2) (t2 := 3) rfl _ _ w.heap.size x5 (.bool false) rfl rfl (st8_has (x := x5) HY.out.hr)) rfl (src_done x5 false rfl HY.out.hb (fun y hy => by cases hy))
            · have j1 : ¬ (65535 : Int) < (p : Int) := by omega
              have j2 : decide ((65535 : Int) < (p : Int)) = false := decide_eq_false j1
              have HE := Lib.hid (HE.out.trans (if_neg h6))
              have hs5 : (d.extract k d.size).size ≤ 2097152 := Nat.le_trans (ext_size _ _) hds
              clear HX
              go_wp2_with fail
              go_meet
              case rel => exact ⟨d.extract k d.size, { x4 with hasPort := true, port := (p : Int) }, hs5, rfl, HY, HE⟩
  case rest =>
  clear HX HN0 HN1 HF hp hs4
  obtain ⟨s5, x, hs5, rfl, HX, HE⟩ := hcut
  go_upto_region 35 with fail
  go_cut [130] from 124 to 130 (fun sb wc => ∃ b : Bool, sb = .bool b ∧ Hid (TB b (s5.data.toList ≠ [] ∧ s5.data.toList[0]? ≠ some 47)) ∧ Hid (HSt w x wc))
  case first =>
    by_cases he : s5.toList = []
    · have g1 : (s5.toList == []) = true := beq_iff_eq.2 he
      have g2 : (s5.toList != []) = false := by rw [bne, g1]; rfl
      have HF := Lib.hid (TB.f (A := s5.data.toList ≠ [] ∧ s5.data.toList[0]? ≠ some 47) fun h => h.1 (empty_list he))
      clear he HE
      go_wp2_with fail
      go_meet
      case rel => exact ⟨false, rfl, HF, HX⟩
    · have g1 : (s5.toList == []) = false := beq_eq_false_iff_ne.2 he
      have g2 : (s5.toList != []) = true := by rw [bne, g1]; rfl
      have hp := full_size he
      have e0 := get0 s5 hp
      have i0 : (0 : Int) < (s5.size : Int) := by omega
      by_cases hc : s5[0] = 47
      · have q0 := byte_nf 47 rfl hc
        have q1 := byte_eq 47 rfl hc
        have HF := Lib.hid (TB.f (A := s5.data.toList ≠ [] ∧ s5.data.toList[0]? ≠ some 47) fun h => h.2 (by rw [e0, hc]))
        clear he e0 hc HE
        go_wp2_with fail
        go_meet
        case rel => exact ⟨false, rfl, HF, HX⟩
      · have q0 := byte_nt 47 rfl hc
        have q1 := byte_ne 47 rfl hc
        have HF := Lib.hid (TB.t (A := s5.data.toList ≠ [] ∧ s5.data.toList[0]? ≠ some 47) ⟨fun h => he ((Lib.toList_data s5).trans h), fun h => by rw [e0] at h; exact hc (Option.some.inj h)⟩)
        clear he e0 hc HE
        go_wp2_with fail
        go_meet
        case rel => exact ⟨true, rfl, HF, HX⟩
  case rest =>
  clear HX
  obtain ⟨b, rfl, HF, HX⟩ := hcut
  cases b with
  | true =>
    have HNO := Lib.hid (show R = none from HE.out.trans (if_pos (HF.out.1 rfl)))
    clear HE HF
    have z10 : wc.cell? ⟨w.heap.size + 1, 0, none⟩ = some (.int .u8 x.kind) := HX.out.hx.cell 0 rfl; have z11 : wc.cell? ⟨w.heap.size + 1, 1, none⟩ = some (.string x.text) := HX.out.hx.cell 1 rfl; have z12 : wc.cell? ⟨w.heap.size + 1, 2, none⟩ = some (.string x.scheme) := HX.out.hx.cell 2 rfl; have z13 : wc.cell? ⟨w.heap.size + 1, 3, none⟩ = some (.bool x.wild) := HX.out.hx.cell 3 rfl; have z14 : wc.cell? ⟨w.heap.size + 1, 4, none⟩ = some (.int .i64 x.port) := HX.out.hx.cell 4 rfl; have z15 : wc.cell? ⟨w.heap.size + 1, 5, none⟩ = some (.bool x.hasPort) := HX.out.hx.cell 5 rfl; have z16 : wc.cell? ⟨w.heap.size + 1, 6, none⟩ = some (.bool x.anyPort) := HX.out.hx.cell 6 rfl; have z17 : wc.cell? ⟨w.heap.size + 1, 7, none⟩ = some (.string x.path) := HX.out.hx.cell 7 rfl
    have z0 : wc.cell? ⟨w.heap.size, 0, none⟩ = some (.int .u8 0) := HX.out.hr.cell 0 rfl; have z1 : wc.cell? ⟨w.heap.size, 1, none⟩ = some (.string ⟨#[]⟩) := HX.out.hr.cell 1 rfl; have z2 : wc.cell? ⟨w.heap.size, 2, none⟩ = some (.string ⟨#[]⟩) := HX.out.hr.cell 2 rfl; have z3 : wc.cell? ⟨w.heap.size, 3, none⟩ = some (.bool false) := HX.out.hr.cell 3 rfl; have z4 : wc.cell? ⟨w.heap.size, 4, none⟩ = some (.int .i64 0) := HX.out.hr.cell 4 rfl; have z5 : wc.cell? ⟨w.heap.size, 5, none⟩ = some (.bool false) := HX.out.hr.cell 5 rfl; have z6 : wc.cell? ⟨w.heap.size, 6, none⟩ = some (.bool false) := HX.out.hr.cell 6 rfl; have z7 : wc.cell? ⟨w.heap.size, 7, none⟩ = some (.string ⟨#[]⟩) := HX.out.hr.cell 7 rfl
    have f0 := HX.out.hr.free 0; have f1 := HX.out.hr.free 1; have f2 := HX.out.hr.free 2; have f3 := HX.out.hr.free 3; have f4 := HX.out.hr.free 4; have f5 := HX.out.hr.free 5; have f6 := HX.out.hr.free 6; have f7 := HX.out.hr.free 7
    go_wp2_with fail
    show bodyPost _ _ _ _ _ (st8 wc w.heap.size x)
    rw [HNO.out]
    exact bodyPost_ret (ret46 (p := 2) (t2 := 3) rfl _ _ w.heap.size x (.bool false) rfl rfl (st8_has (x := x) HX.out.hr)) rfl (src_done x false rfl HX.out.hb (fun y hy => by cases hy))
  | false =>
    have HE := Lib.hid (show R = if s5.data.toList.any badB = true then none else some { x with path := s5 } from HE.out.trans (if_neg (fun h => Bool.noConfusion (HF.out.2 h))))
    clear HF
    go_wp2_with fail
    go_loopw [7] (fun i wr => ∃ k : Nat, k ≤ s5.size ∧ i = .int .i64 k ∧ Hid (∀ (j : Nat) y, j < k → s5.data.toList[j]? = some y → badB y = false) ∧ Hid (HSt w x wr)) (fun i _ => s5.size - (intOf i).toNat)
    case atStart => exact ⟨0, by omega, rfl, Lib.hid (fun j y hj => by omega), HX⟩
    case round =>
      clear HX
      obtain ⟨k, hk, rfl, HD, HX⟩ := hrel
      by_cases hlt : k < s5.size
      · have i1 : (k : Int) < (s5.size : Int) := by omega
        have i2 : decide ((k : Int) < (s5.size : Int)) = true := decide_eq_true i1
        have i3 : decide (k < s5.size) = true := decide_eq_true hlt
        have hkl : k < s5.data.toList.length := by rw [Ks.len_list]; exact hlt
        have e0 : s5.data.toList[k]? = some s5[k] := by rw [getT hkl]; rfl
        have HB := Lib.hid (show badB s5[k] = true → R = none from fun h => HE.out.trans (if_pos (List.any_eq_true.2 ⟨_, List.mem_of_getElem? e0, h⟩)))
        have HN := Lib.hid (show badB s5[k] = false → ∀ (j : Nat) y, j < k + 1 → s5.data.toList[j]? = some y → badB y = false from fun h j y hj hy => by
          by_cases hjk : j = k
          · subst hjk; rw [e0] at hy; cases hy; exact h
          · exact HD.out j y (by omega) hy)
        clear HD e0 HE
        by_cases c0 : s5[k] = 59
        · have q0 := byte_eq 59 rfl c0
          have HNO := Lib.hid (HB.out (by rw [c0]; rfl))
          clear HB HN c0
          have z10 : wr.cell? ⟨w.heap.size + 1, 0, none⟩ = some (.int .u8 x.kind) := HX.out.hx.cell 0 rfl; have z11 : wr.cell? ⟨w.heap.size + 1, 1, none⟩ = some (.string x.text) := HX.out.hx.cell 1 rfl; have z12 : wr.cell? ⟨w.heap.size + 1, 2, none⟩ = some (.string x.scheme) := HX.out.hx.cell 2 rfl; have z13 : wr.cell? ⟨w.heap.size + 1, 3, none⟩ = some (.bool x.wild) := HX.out.hx.cell 3 rfl; have z14 : wr.cell? ⟨w.heap.size + 1, 4, none⟩ = some (.int .i64 x.port) := HX.out.hx.cell 4 rfl; have z15 : wr.cell? ⟨w.heap.size + 1, 5, none⟩ = some (.bool x.hasPort) := HX.out.hx.cell 5 rfl; have z16 : wr.cell? ⟨w.heap.size + 1, 6, none⟩ = some (.bool x.anyPort) := HX.out.hx.cell 6 rfl; have z17 : wr.cell? ⟨w.heap.size + 1, 7, none⟩ = some (.string x.path) := HX.out.hx.cell 7 rfl
          have z0 : wr.cell? ⟨w.heap.size, 0, none⟩ = some (.int .u8 0) := HX.out.hr.cell 0 rfl; have z1 : wr.cell? ⟨w.heap.size, 1, none⟩ = some (.string ⟨#[]⟩) := HX.out.hr.cell 1 rfl; have z2 : wr.cell? ⟨w.heap.size, 2, none⟩ = some (.string ⟨#[]⟩) := HX.out.hr.cell 2 rfl; have z3 : wr.cell? ⟨w.heap.size, 3, none⟩ = some (.bool false) := HX.out.hr.cell 3 rfl; have z4 : wr.cell? ⟨w.heap.size, 4, none⟩ = some (.int .i64 0) := HX.out.hr.cell 4 rfl; have z5 : wr.cell? ⟨w.heap.size, 5, none⟩ = some (.bool false) := HX.out.hr.cell 5 rfl; have z6 : wr.cell? ⟨w.heap.size, 6, none⟩ = some (.bool false) := HX.out.hr.cell 6 rfl; have z7 : wr.cell? ⟨w.heap.size, 7, none⟩ = some (.string ⟨#[]⟩) := HX.out.hr.cell 7 rfl
          have f0 := HX.out.hr.free 0; have f1 := HX.out.hr.free 1; have f2 := HX.out.hr.free 2; have f3 := HX.out.hr.free 3; have f4 := HX.out.hr.free 4; have f5 := HX.out.hr.free 5; have f6 := HX.out.hr.free 6; have f7 := HX.out.hr.free 7
          go_wp2_with fail
          show bodyPost _ _ _ _ _ (st8 wr w.heap.size x)
          rw [HNO.out]
          exact bodyPost_ret (ret46 (p := 2) (t2 := 3) rfl _ _ w.heap.size x (.bool false) rfl rfl (st8_has (x := x) HX.out.hr)) rfl (src_done x false rfl HX.out.hb (fun y hy => by cases hy))
        have q0 := byte_ne 59 rfl c0
        by_cases c1 : s5[k] = 44
        · have q1 := byte_eq 44 rfl c1
          have HNO := Lib.hid (HB.out (by rw [c1]; rfl))
          clear HB HN c0 c1
          have z10 : wr.cell? ⟨w.heap.size + 1, 0, none⟩ = some (.int .u8 x.kind) := HX.out.hx.cell 0 rfl; have z11 : wr.cell? ⟨w.heap.size + 1, 1, none⟩ = some (.string x.text) := HX.out.hx.cell 1 rfl; have z12 : wr.cell? ⟨w.heap.size + 1, 2, none⟩ = some (.string x.scheme) := HX.out.hx.cell 2 rfl; have z13 : wr.cell? ⟨w.heap.size + 1, 3, none⟩ = some (.bool x.wild) := HX.out.hx.cell 3 rfl; have z14 : wr.cell? ⟨w.heap.size + 1, 4, none⟩ = some (.int .i64 x.port) := HX.out.hx.cell 4 rfl; have z15 : wr.cell? ⟨w.heap.size + 1, 5, none⟩ = some (.bool x.hasPort) := HX.out.hx.cell 5 rfl; have z16 : wr.cell? ⟨w.heap.size + 1, 6, none⟩ = some (.bool x.anyPort) := HX.out.hx.cell 6 rfl; have z17 : wr.cell? ⟨w.heap.size + 1, 7, none⟩ = some (.string x.path) := HX.out.hx.cell 7 rfl
          have z0 : wr.cell? ⟨w.heap.size, 0, none⟩ = some (.int .u8 0) := HX.out.hr.cell 0 rfl; have z1 : wr.cell? ⟨w.heap.size, 1, none⟩ = some (.string ⟨#[]⟩) := HX.out.hr.cell 1 rfl; have z2 : wr.cell? ⟨w.heap.size, 2, none⟩ = some (.string ⟨#[]⟩) := HX.out.hr.cell 2 rfl; have z3 : wr.cell? ⟨w.heap.size, 3, none⟩ = some (.bool false) := HX.out.hr.cell 3 rfl; have z4 : wr.cell? ⟨w.heap.size, 4, none⟩ = some (.int .i64 0) := HX.out.hr.cell 4 rfl; have z5 : wr.cell? ⟨w.heap.size, 5, none⟩ = some (.bool false) := HX.out.hr.cell 5 rfl; have z6 : wr.cell? ⟨w.heap.size, 6, none⟩ = some (.bool false) := HX.out.hr.cell 6 rfl; have z7 : wr.cell? ⟨w.heap.size, 7, none⟩ = some (.string ⟨#[]⟩) := HX.out.hr.cell 7 rfl
          have f0 := HX.out.hr.free 0; have f1 := HX.out.hr.free 1; have f2 := HX.out.hr.free 2; have f3 := HX.out.hr.free 3; have f4 := HX.out.hr.free 4; have f5 := HX.out.hr.free 5; have f6 := HX.out.hr.free 6; have f7 := HX.out.hr.free 7
          go_wp2_with fail
          show bodyPost _ _ _ _ _ (st8 wr w.heap.size x)
          rw [HNO.out]
          exact bodyPost_ret (ret46 (p := 2) (t2 := 3) rfl _ _ w.heap.size x (.bool false) rfl rfl (st8_has (x := x) HX.out.hr)) rfl (src_done x false rfl HX.out.hb (fun y hy => by cases hy))
        have q1 := byte_ne 44 rfl c1
        by_cases c2 : s5[k] = 63
        · have q2 := byte_eq 63 rfl c2
          have HNO := Lib.hid (HB.out (by rw [c2]; rfl))
          clear HB HN c0 c1 c2
          have z10 : wr.cell? ⟨w.heap.size + 1, 0, none⟩ = some (.int .u8 x.kind) := HX.out.hx.cell 0 rfl; have z11 : wr.cell? ⟨w.heap.size + 1, 1, none⟩ = some (.string x.text) := HX.out.hx.cell 1 rfl; have z12 : wr.cell? ⟨w.heap.size + 1, 2, none⟩ = some (.string x.scheme) := HX.out.hx.cell 2 rfl; have z13 : wr.cell? ⟨w.heap.size + 1, 3, none⟩ = some (.bool x.wild) := HX.out.hx.cell 3 rfl; have z14 : wr.cell? ⟨w.heap.size + 1, 4, none⟩ = some (.int .i64 x.port) := HX.out.hx.cell 4 rfl; have z15 : wr.cell? ⟨w.heap.size + 1, 5, none⟩ = some (.bool x.hasPort) := HX.out.hx.cell 5 rfl; have z16 : wr.cell? ⟨w.heap.size + 1, 6, none⟩ = some (.bool x.anyPort) := HX.out.hx.cell 6 rfl; have z17 : wr.cell? ⟨w.heap.size + 1, 7, none⟩ = some (.string x.path) := HX.out.hx.cell 7 rfl
          have z0 : wr.cell? ⟨w.heap.size, 0, none⟩ = some (.int .u8 0) := HX.out.hr.cell 0 rfl; have z1 : wr.cell? ⟨w.heap.size, 1, none⟩ = some (.string ⟨#[]⟩) := HX.out.hr.cell 1 rfl; have z2 : wr.cell? ⟨w.heap.size, 2, none⟩ = some (.string ⟨#[]⟩) := HX.out.hr.cell 2 rfl; have z3 : wr.cell? ⟨w.heap.size, 3, none⟩ = some (.bool false) := HX.out.hr.cell 3 rfl; have z4 : wr.cell? ⟨w.heap.size, 4, none⟩ = some (.int .i64 0) := HX.out.hr.cell 4 rfl; have z5 : wr.cell? ⟨w.heap.size, 5, none⟩ = some (.bool false) := HX.out.hr.cell 5 rfl; have z6 : wr.cell? ⟨w.heap.size, 6, none⟩ = some (.bool false) := HX.out.hr.cell 6 rfl; have z7 : wr.cell? ⟨w.heap.size, 7, none⟩ = some (.string ⟨#[]⟩) := HX.out.hr.cell 7 rfl
          have f0 := HX.out.hr.free 0; have f1 := HX.out.hr.free 1; have f2 := HX.out.hr.free 2; have f3 := HX.out.hr.free 3; have f4 := HX.out.hr.free 4; have f5 := HX.out.hr.free 5; have f6 := HX.out.hr.free 6; have f7 := HX.out.hr.free 7
          go_wp2_with fail
          show bodyPost _ _ _ _ _ (st8 wr w.heap.size x)
          rw [HNO.out]
          exact bodyPost_ret (ret46 (p := 2) (t2 := 3) rfl _ _ w.heap.size x (.bool false) rfl rfl (st8_has (x := x) HX.out.hr)) rfl (src_done x false rfl HX.out.hb (fun y hy => by cases hy))
        have q2 := byte_ne 63 rfl c2
        by_cases c3 : s5[k] = 35
        · have q3 := byte_eq 35 rfl c3
          have HNO := Lib.hid (HB.out (by rw [c3]; rfl))
          clear HB HN c0 c1 c2 c3
          have z10 : wr.cell? ⟨w.heap.size + 1, 0, none⟩ = some (.int .u8 x.kind) := HX.out.hx.cell 0 rfl; have z11 : wr.cell? ⟨w.heap.size + 1, 1, none⟩ = some (.string x.text) := HX.out.hx.cell 1 rfl; have z12 : wr.cell? ⟨w.heap.size + 1, 2, none⟩ = some (.string x.scheme) := HX.out.hx.cell 2 rfl; have z13 : wr.cell? ⟨w.heap.size + 1, 3, none⟩ = some (.bool x.wild) := HX.out.hx.cell 3 rfl; have z14 : wr.cell? ⟨w.heap.size + 1, 4, none⟩ = some (.int .i64 x.port) := HX.out.hx.cell 4 rfl; have z15 : wr.cell? ⟨w.heap.size + 1, 5, none⟩ = some (.bool x.hasPort) := HX.out.hx.cell 5 rfl; have z16 : wr.cell? ⟨w.heap.size + 1, 6, none⟩ = some (.bool x.anyPort) := HX.out.hx.cell 6 rfl; have z17 : wr.cell? ⟨w.heap.size + 1, 7, none⟩ = some (.string x.path) := HX.out.hx.cell 7 rfl
          have z0 : wr.cell? ⟨w.heap.size, 0, none⟩ = some (.int .u8 0) := HX.out.hr.cell 0 rfl; have z1 : wr.cell? ⟨w.heap.size, 1, none⟩ = some (.string ⟨#[]⟩) := HX.out.hr.cell 1 rfl; have z2 : wr.cell? ⟨w.heap.size, 2, none⟩ = some (.string ⟨#[]⟩) := HX.out.hr.cell 2 rfl; have z3 : wr.cell? ⟨w.heap.size, 3, none⟩ = some (.bool false) := HX.out.hr.cell 3 rfl; have z4 : wr.cell? ⟨w.heap.size, 4, none⟩ = some (.int .i64 0) := HX.out.hr.cell 4 rfl; have z5 : wr.cell? ⟨w.heap.size, 5, none⟩ = some (.bool false) := HX.out.hr.cell 5 rfl; have z6 : wr.cell? ⟨w.heap.size, 6, none⟩ = some (.bool false) := HX.out.hr.cell 6 rfl; have z7 : wr.cell? ⟨w.heap.size, 7, none⟩ = some (.string ⟨#[]⟩) := HX.out.hr.cell 7 rfl
          have f0 := HX.out.hr.free 0; have f1 := HX.out.hr.free 1; have f2 := HX.out.hr.free 2; have f3 := HX.out.hr.free 3; have f4 := HX.out.hr.free 4; have f5 := HX.out.hr.free 5; have f6 := HX.out.hr.free 6; have f7 := HX.out.hr.free 7
          go_wp2_with fail
          show bodyPost _ _ _ _ _ (st8 wr w.heap.size x)
          rw [HNO.out]
          exact bodyPost_ret (ret46 (p := 2) (t2 := 3) rfl _ _ w.heap.size x (.bool false) rfl rfl (st8_has (x := x) HX.out.hr)) rfl (src_done x false rfl HX.out.hb (fun y hy => by cases hy))
        have q3 := byte_ne 35 rfl c3
        have HN2 := Lib.hid (HN.out (by unfold badB; simp [c0, c1, c2, c3]))
        clear HB HN c0 c1 c2 c3
        go_wp2_with fail
        go_roundw
        case rel => exact ⟨k + 1, by omega, by go_num, HN2, HX⟩
        case measure => simp [intOf]; omega
      · have i1 : ¬ (k : Int) < (s5.size : Int) := by omega
        have i2 : decide ((k : Int) < (s5.size : Int)) = false := decide_eq_false i1
        have i3 : decide (k < s5.size) = false := decide_eq_false hlt
        have HR := Lib.hid (show R = some { x with path := s5 } from HE.out.trans (if_neg (by
          rw [Bool.not_eq_true, List.any_eq_false]
          intro y hy
          obtain ⟨j, hj, rfl⟩ := List.getElem_of_mem hy
          rw [Bool.not_eq_true]
          exact HD.out j _ (by rw [Ks.len_list] at hj; omega) (getT hj))))
        have z17 : wr.cell? ⟨w.heap.size + 1, 7, none⟩ = some (.string x.path) := HX.out.hx.cell 7 rfl
        have f17 := HX.out.hx.free 7
        have HY := Lib.hid (HX.out.set _ 7 _ (has_path s5 HX.out.hx))
        clear HD HE HX
        go_upto_region 43 with fail
        clear z17 f17
        obtain ⟨x5, hx5⟩ : ∃ x5, x5 = ({ x with path := s5 } : Src) := ⟨_, rfl⟩
        rw [← hx5] at HY HR
        clear hx5
        generalize wr.setCell ⟨w.heap.size + 1, 7, none⟩ (.string s5) = W5 at *
        have z10 : W5.cell? ⟨w.heap.size + 1, 0, none⟩ = some (.int .u8 x5.kind) := HY.out.hx.cell 0 rfl; have z11 : W5.cell? ⟨w.heap.size + 1, 1, none⟩ = some (.string x5.text) := HY.out.hx.cell 1 rfl; have z12 : W5.cell? ⟨w.heap.size + 1, 2, none⟩ = some (.string x5.scheme) := HY.out.hx.cell 2 rfl; have z13 : W5.cell? ⟨w.heap.size + 1, 3, none⟩ = some (.bool x5.wild) := HY.out.hx.cell 3 rfl; have z14 : W5.cell? ⟨w.heap.size + 1, 4, none⟩ = some (.int .i64 x5.port) := HY.out.hx.cell 4 rfl; have z15 : W5.cell? ⟨w.heap.size + 1, 5, none⟩ = some (.bool x5.hasPort) := HY.out.hx.cell 5 rfl; have z16 : W5.cell? ⟨w.heap.size + 1, 6, none⟩ = some (.bool x5.anyPort) := HY.out.hx.cell 6 rfl; have z17 : W5.cell? ⟨w.heap.size + 1, 7, none⟩ = some (.string x5.path) := HY.out.hx.cell 7 rfl
        have z0 : W5.cell? ⟨w.heap.size, 0, none⟩ = some (.int .u8 0) := HY.out.hr.cell 0 rfl; have z1 : W5.cell? ⟨w.heap.size, 1, none⟩ = some (.string ⟨#[]⟩) := HY.out.hr.cell 1 rfl; have z2 : W5.cell? ⟨w.heap.size, 2, none⟩ = some (.string ⟨#[]⟩) := HY.out.hr.cell 2 rfl; have z3 : W5.cell? ⟨w.heap.size, 3, none⟩ = some (.bool false) := HY.out.hr.cell 3 rfl; have z4 : W5.cell? ⟨w.heap.size, 4, none⟩ = some (.int .i64 0) := HY.out.hr.cell 4 rfl; have z5 : W5.cell? ⟨w.heap.size, 5, none⟩ = some (.bool false) := HY.out.hr.cell 5 rfl; have z6 : W5.cell? ⟨w.heap.size, 6, none⟩ = some (.bool false) := HY.out.hr.cell 6 rfl; have z7 : W5.cell? ⟨w.heap.size, 7, none⟩ = some (.string ⟨#[]⟩) := HY.out.hr.cell 7 rfl
        have f0 := HY.out.hr.free 0; have f1 := HY.out.hr.free 1; have f2 := HY.out.hr.free 2; have f3 := HY.out.hr.free 3; have f4 := HY.out.hr.free 4; have f5 := HY.out.hr.free 5; have f6 := HY.out.hr.free 6; have f7 := HY.out.hr.free 7
        go_wp2_with fail
        show bodyPost _ _ _ _ _ (st8 W5 w.heap.size x5)
        rw [HR.out]
        exact bodyPost_ret (ret46 (p := 2) (t2 := 3) rfl _ _ w.heap.size x5 (.bool true) rfl rfl (st8_has (x := x5) HY.out.hr)) rfl (src_done x5 true rfl HY.out.hb (fun y hy => Option.some.inj hy))
end Go.Proofs.YtempmmkdppelaaaGreatDoor
