/-
  The laws' lives.
-/
import Derived.Test.YtempmmkdppelaaaGreatDoorU2M
import Derived.Test.YtempmmkdppelaaaGreatDoorE3M
namespace Go.Proofs.YtempmmkdppelaaaGreatDoor
open Go.RowKit
def lvA : ByteArray := ⟨#[83, 99, 114, 105, 112, 116, 45, 83, 114, 99, 32, 39, 115, 101, 108, 102, 39, 32, 32, 104, 116, 116, 112, 115, 58, 32, 59, 59, 32, 105, 109, 103, 45, 115, 114, 99, 32, 42]⟩
def lvD : List Dir := [(⟨#[115, 99, 114, 105, 112, 116, 45, 115, 114, 99]⟩, [⟨#[39, 115, 101, 108, 102, 39]⟩, ⟨#[104, 116, 116, 112, 115, 58]⟩]), (⟨#[105, 109, 103, 45, 115, 114, 99]⟩, [⟨#[42]⟩])]
def lvT : ByteArray := ⟨#[115, 99, 114, 105, 112, 116, 45, 115, 114, 99, 32, 39, 115, 101, 108, 102, 39, 32, 104, 116, 116, 112, 115, 58, 59, 32, 105, 109, 103, 45, 115, 114, 99, 32, 42]⟩
theorem lv_parse : parseP lvA = .ok lvD := by kernel_rfl
theorem lv_s1 : sourceP ⟨#[42, 46, 69, 88, 46, 99, 111, 109, 58, 42, 47, 97]⟩ = .ok { kind := 5, wild := true, text := ⟨#[101, 120, 46, 99, 111, 109]⟩, anyPort := true, path := ⟨#[47, 97]⟩ } := by kernel_rfl
theorem lv_s2 : sourceP ⟨#[39, 110, 111, 110, 99, 101, 45, 97, 98, 61, 61, 39]⟩ = .ok { kind := 2, text := ⟨#[97, 98, 61, 61]⟩ } := by kernel_rfl
theorem lv_s3 : sourceP ⟨#[39, 110, 111, 112, 101, 39]⟩ = .error 20 := by kernel_rfl
theorem lv_txt : txtL lvD = lvT.data.toList := by kernel_rfl
theorem lv_ok : okP lvD := ⟨by decide, fun j x hx => by
  match j, hx with
  | 0, hx => cases hx; exact ⟨by kernel_rfl, by kernel_rfl⟩
  | 1, hx => cases hx; exact ⟨by kernel_rfl, by kernel_rfl⟩
  | j + 2, hx => simp [lvD] at hx⟩
theorem lv_small : Small lvD := by
  intro x hx
  simp only [lvD, List.mem_cons, List.mem_nil_iff, or_false] at hx
  rcases hx with rfl | rfl
  · refine ⟨by decide, by decide, fun v hv => ?_⟩
    simp only [List.mem_cons, List.mem_nil_iff, or_false] at hv
    rcases hv with rfl | rfl <;> decide
  · refine ⟨by decide, by decide, fun v hv => ?_⟩
    simp only [List.mem_cons, List.mem_nil_iff, or_false] at hv
    subst hv; decide
theorem lives_parse (w : World) : Calls Tryz.prog 10 #[.string lvA, .bool false] w fun e w' => (∃ q c, e = .returned (.tuple #[.agg #[.slice q 2 c, .bool false], .int .i64 0]) ∧ Dirs w' (.slice q 2 c) lvD) ∧ Below w.heap.size w w' := by
  refine (parse_is lvA false (by decide) w).mono ?_
  intro e w' h
  rw [lv_parse] at h
  obtain ⟨⟨v, rs, he, ho, hl, _⟩, hb⟩ := h
  obtain ⟨q, c, rfl⟩ : ∃ q c, v = .slice q rs.length c := own_any ho.row
  have h2 : rs.length = 2 := by have := congrArg List.length hl; rw [List.length_map] at this; exact this.symm
  have hd := ho.dirs
  rw [← hl] at hd
  rw [h2] at he hd
  exact ⟨⟨q, c, he, hd⟩, hb⟩
theorem lives_text (q : Option Addr) (c : Nat) (w : World) (h : Dirs w (.slice q 2 c) lvD) : Calls Tryz.prog 14 #[.agg #[.slice q 2 c, .bool false]] w fun e w' => e = .returned (.tuple #[.string lvT, .int .i64 0]) ∧ Below w.heap.size w w' := by
  have := text_is (.slice q 2 c) lvD false lvT.data.toList 0 (.inl ⟨lv_ok, rfl, lv_txt⟩) (by decide) (by decide) lv_small w h
  rwa [show (⟨lvT.data.toList.toArray⟩ : ByteArray) = lvT from rfl] at this
theorem lives_src (s : ByteArray) (st : Except Nat Src) (h : sourceP s = st) (hs : s.size ≤ 281474976710656) (w : World) (hM : ML w) : Calls Tryz.prog 24 #[.string s] w (SrcRet st w) := h ▸ source_is s hs w hM
theorem lives_s1 (w : World) (hM : ML w) : Calls Tryz.prog 24 #[.string ⟨#[42, 46, 69, 88, 46, 99, 111, 109, 58, 42, 47, 97]⟩] w fun e w' => e = .returned (.tuple #[.agg #[.int .u8 5, .string ⟨#[101, 120, 46, 99, 111, 109]⟩, .string ⟨#[]⟩, .bool true, .int .i64 0, .bool false, .bool true, .string ⟨#[47, 97]⟩], .int .i64 0]) ∧ Below w.heap.size w w' := lives_src _ _ lv_s1 (by decide) w hM
theorem lives_s2 (w : World) (hM : ML w) : Calls Tryz.prog 24 #[.string ⟨#[39, 110, 111, 110, 99, 101, 45, 97, 98, 61, 61, 39]⟩] w fun e w' => e = .returned (.tuple #[.agg #[.int .u8 2, .string ⟨#[97, 98, 61, 61]⟩, .string ⟨#[]⟩, .bool false, .int .i64 0, .bool false, .bool false, .string ⟨#[]⟩], .int .i64 0]) ∧ Below w.heap.size w w' := lives_src _ _ lv_s2 (by decide) w hM
theorem lives_s3 (w : World) (hM : ML w) : Calls Tryz.prog 24 #[.string ⟨#[39, 110, 111, 112, 101, 39]⟩] w fun e w' => e = .returned (.tuple #[.agg #[.int .u8 0, .string ⟨#[]⟩, .string ⟨#[]⟩, .bool false, .int .i64 0, .bool false, .bool false, .string ⟨#[]⟩], .int .i64 20]) ∧ Below w.heap.size w w' := lives_src _ _ lv_s3 (by decide) w hM
set_option maxHeartbeats 2000000 in
set_option maxRecDepth 100000 in
theorem lives_is (w : World) (hM : ML w) : Calls Tryz.prog 18 #[] w fun e w' => e = .returned (.bool true) ∧ Below w.heap.size w w' := by
  have HP := Lib.hid (lives_parse w)
  have HM := Lib.hid hM
  unfold lvA at HP
  have HB := Lib.hid (Below.refl w.heap.size w)
  clear hM
  go_enter Tryz.func18, Tryz.ntmps18
  go_wp2_with fail
  refine HP.out.mono ?_
  rintro e w1 ⟨⟨q, c, rfl, hd⟩, hb1⟩
  have HB1 := Lib.hid hb1
  have HD1 := Lib.hid hd
  clear hd hb1 HP
  go_wp2_with fail
  have HP1 := Lib.hid (Has.new w1 (.cells #[.slice q 2 c, .bool false] 25))
  have HB2 := Lib.hid (HB1.out.alloc HB1.out.size (.cells #[.slice q 2 c, .bool false] 25))
  have HD2 := Lib.hid (HD1.out.to (bnew w1 (.cells #[.slice q 2 c, .bool false] 25)))
  refine (lives_s1 _ (HM.out.to HB2.out)).mono ?_
  rintro e w2 ⟨rfl, hb⟩
  have HB3 := Lib.hid ((HB2.out.trans (hb.mono HB2.out.size)).alloc (Nat.le_trans HB2.out.size hb.size) (.cells #[.int .u8 5, .string ⟨#[101, 120, 46, 99, 111, 109]⟩, .string ⟨#[]⟩, .bool true, .int .i64 0, .bool false, .bool true, .string ⟨#[47, 97]⟩] 46))
  have HP3 := Lib.hid ((HP1.out.to hb).alloc (.cells #[.int .u8 5, .string ⟨#[101, 120, 46, 99, 111, 109]⟩, .string ⟨#[]⟩, .bool true, .int .i64 0, .bool false, .bool true, .string ⟨#[47, 97]⟩] 46))
  have HA3 := Lib.hid (Has.new w2 (.cells #[.int .u8 5, .string ⟨#[101, 120, 46, 99, 111, 109]⟩, .string ⟨#[]⟩, .bool true, .int .i64 0, .bool false, .bool true, .string ⟨#[47, 97]⟩] 46))
  have HD3 := Lib.hid ((HD2.out.to hb).to (bnew w2 (.cells #[.int .u8 5, .string ⟨#[101, 120, 46, 99, 111, 109]⟩, .string ⟨#[]⟩, .bool true, .int .i64 0, .bool false, .bool true, .string ⟨#[47, 97]⟩] 46)))
  clear hb HP1 HB1 HB2 HD1 HD2
  go_wp2_with fail
  refine (lives_s2 _ (HM.out.to HB3.out)).mono ?_
  rintro e w3 ⟨rfl, hb⟩
  have HB4 := Lib.hid ((HB3.out.trans (hb.mono HB3.out.size)).alloc (Nat.le_trans HB3.out.size hb.size) (.cells #[.int .u8 2, .string ⟨#[97, 98, 61, 61]⟩, .string ⟨#[]⟩, .bool false, .int .i64 0, .bool false, .bool false, .string ⟨#[]⟩] 46))
  have HP4 := Lib.hid ((HP3.out.to hb).alloc (.cells #[.int .u8 2, .string ⟨#[97, 98, 61, 61]⟩, .string ⟨#[]⟩, .bool false, .int .i64 0, .bool false, .bool false, .string ⟨#[]⟩] 46))
  have HA4 := Lib.hid ((HA3.out.to hb).alloc (.cells #[.int .u8 2, .string ⟨#[97, 98, 61, 61]⟩, .string ⟨#[]⟩, .bool false, .int .i64 0, .bool false, .bool false, .string ⟨#[]⟩] 46))
  have HN4 := Lib.hid (Has.new w3 (.cells #[.int .u8 2, .string ⟨#[97, 98, 61, 61]⟩, .string ⟨#[]⟩, .bool false, .int .i64 0, .bool false, .bool false, .string ⟨#[]⟩] 46))
  have HD4 := Lib.hid ((HD3.out.to hb).to (bnew w3 (.cells #[.int .u8 2, .string ⟨#[97, 98, 61, 61]⟩, .string ⟨#[]⟩, .bool false, .int .i64 0, .bool false, .bool false, .string ⟨#[]⟩] 46)))
  clear hb HB3 HP3 HA3 HD3
  go_wp2_with fail
  refine (lives_s3 _ (HM.out.to HB4.out)).mono ?_
  rintro e w4 ⟨rfl, hb⟩
  have HB5 := Lib.hid ((HB4.out.trans (hb.mono HB4.out.size)).alloc (Nat.le_trans HB4.out.size hb.size) (.cells #[.int .u8 0, .string ⟨#[]⟩, .string ⟨#[]⟩, .bool false, .int .i64 0, .bool false, .bool false, .string ⟨#[]⟩] 46))
  have HP5 := Lib.hid ((HP4.out.to hb).alloc (.cells #[.int .u8 0, .string ⟨#[]⟩, .string ⟨#[]⟩, .bool false, .int .i64 0, .bool false, .bool false, .string ⟨#[]⟩] 46))
  have HA5 := Lib.hid ((HA4.out.to hb).alloc (.cells #[.int .u8 0, .string ⟨#[]⟩, .string ⟨#[]⟩, .bool false, .int .i64 0, .bool false, .bool false, .string ⟨#[]⟩] 46))
  have HN5 := Lib.hid ((HN4.out.to hb).alloc (.cells #[.int .u8 0, .string ⟨#[]⟩, .string ⟨#[]⟩, .bool false, .int .i64 0, .bool false, .bool false, .string ⟨#[]⟩] 46))
  have HD5 := Lib.hid ((HD4.out.to hb).to (bnew w4 (.cells #[.int .u8 0, .string ⟨#[]⟩, .string ⟨#[]⟩, .bool false, .int .i64 0, .bool false, .bool false, .string ⟨#[]⟩] 46)))
  have p0 := HP5.out.cell 0 rfl
  have p1 := HP5.out.cell 1 rfl
  clear hb HB4 HP4 HA4 HN4 HD4
  go_wp2_with fail
  refine (lives_text q c _ HD5.out).mono ?_
  rintro e w5 ⟨rfl, hb⟩
  unfold lvT
  have HB6 := Lib.hid (HB5.out.trans (hb.mono HB5.out.size))
  have HP6 := Lib.hid (HP5.out.to hb)
  have HA6 := Lib.hid (HA5.out.to hb)
  have HN6 := Lib.hid (HN5.out.to hb)
  clear hb HB5 HP5 HA5 HN5 HD5 p0 p1
  have p0 := HP6.out.cell 0 rfl
  have b1 := HN6.out.cell 1 rfl
  have a0 := HA6.out.cell 0 rfl; have a1 := HA6.out.cell 1 rfl; have a2 := HA6.out.cell 2 rfl; have a3 := HA6.out.cell 3 rfl; have a4 := HA6.out.cell 4 rfl; have a5 := HA6.out.cell 5 rfl; have a6 := HA6.out.cell 6 rfl; have a7 := HA6.out.cell 7 rfl
  go_wp2_with fail
  go_ret
  exact ⟨rfl, HB6.out⟩
end Go.Proofs.YtempmmkdppelaaaGreatDoor
