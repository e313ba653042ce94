import Derived.Test.YtempmmkdppelaaaGreatDoorU2M
import Derived.Test.YtempmmkdppelaaaGreatDoorE3M
/-
  The laws' lives.
-/
namespace Go.Proofs.YtempmmkdppelaaaGreatDoor
open Go.RowKit
def lvA : ByteArray := ⟨#[83, 99, 114, 105, 112, 116, 45, 83, 114, 99, 32, 39, 115, 101, 108, 102, 39, 32, 32, 104, 116, 116, 112, 115, 58, 32, 59, 59, 32, 105, 109, 103, 45, 115, 114, 99, 32, 42]⟩
def lvD : List Dir := [(⟨#[115, 99, 114, 105, 112, 116, 45, 115, 114, 99]⟩, [⟨#[39, 115, 101, 108, 102, 39]⟩, ⟨#[104, 116, 116, 112, 115, 58]⟩]), (⟨#[105, 109, 103, 45, 115, 114, 99]⟩, [⟨#[42]⟩])]
def lvT : ByteArray := ⟨#[115, 99, 114, 105, 112, 116, 45, 115, 114, 99, 32, 39, 115, 101, 108, 102, 39, 32, 104, 116, 116, 112, 115, 58, 59, 32, 105, 109, 103, 45, 115, 114, 99, 32, 42]⟩
theorem lv_parse : parseP lvA = .ok lvD := by kernel_rfl
theorem lv_s1 : sourceP ⟨#[42, 46, 69, 88, 46, 99, 111, 109, 58, 42, 47, 97]⟩ = .ok { kind := 5, wild := true, text := ⟨#[101, 120, 46, 99, 111, 109]⟩, anyPort := true, path := ⟨#[47, 97]⟩ } := by kernel_rfl
theorem lv_s2 : sourceP ⟨#[39, 110, 111, 110, 99, 101, 45, 97, 98, 61, 61, 39]⟩ = .ok { kind := 2, text := ⟨#[97, 98, 61, 61]⟩ } := by kernel_rfl
theorem lv_s3 : sourceP ⟨#[39, 110, 111, 112, 101, 39]⟩ = .error 20 := by kernel_rfl
theorem lv_txt : txtL lvD = lvT.data.toList := by kernel_rfl
theorem lv_ok : okP lvD := ⟨by decide, fun j x hx => by
  match j, hx with
  | 0, hx => cases hx; exact ⟨by kernel_rfl, by kernel_rfl⟩
  | 1, hx => cases hx; exact ⟨by kernel_rfl, by kernel_rfl⟩
  | j + 2, hx => simp [lvD] at hx⟩
theorem lv_small : Small lvD := by
  intro x hx
  simp only [lvD, List.mem_cons, List.mem_nil_iff, or_false] at hx
  rcases hx with rfl | rfl
  · refine ⟨by decide, by decide, fun v hv => ?_⟩
    simp only [List.mem_cons, List.mem_nil_iff, or_false] at hv
    rcases hv with rfl | rfl <;> decide
  · refine ⟨by decide, by decide, fun v hv => ?_⟩
    simp only [List.mem_cons, List.mem_nil_iff, or_false] at hv
    subst hv; decide
theorem lives_parse (w : World) : Calls Tryz.prog 10 #[.string lvA, .bool false] w fun e w' => (∃ q c, e = .returned (.tuple #[.agg #[.slice q 2 c, .bool false], .int .i64 0]) ∧ Dirs w' (.slice q 2 c) lvD) ∧ Below w.heap.size w w' := by
  refine (parse_is lvA false (by decide) w).mono ?_
  intro e w' h
  rw [lv_parse] at h
  obtain ⟨⟨v, rs, he, ho, hl, _⟩, hb⟩ := h
  obtain ⟨q, c, rfl⟩ : ∃ q c, v = .slice q rs.length c := own_any ho.row
  have h2 : rs.length = 2 := by have := congrArg List.length hl; rw [List.length_map] at this; exact this.symm
  have hd := ho.dirs
  rw [← hl] at hd
  rw [h2] at he hd
  exact ⟨⟨q, c, he, hd⟩, hb⟩
theorem lives_text (q : Option Addr) (c : Nat) (w : World) (h : Dirs w (.slice q 2 c) lvD) : Calls Tryz.prog 14 #[.agg #[.slice q 2 c, .bool false]] w fun e w' => e = .returned (.tuple #[.string lvT, .int .i64 0]) ∧ Below w.heap.size w w' := by
  have := text_is (.slice q 2 c) lvD false lvT.data.toList 0 (.inl ⟨lv_ok, rfl, lv_txt⟩) (by decide) (by decide) lv_small w h
  rwa [show (⟨lvT.data.toList.toArray⟩ : ByteArray) = lvT from rfl] at this
theorem lives_src (s : ByteArray) (st : Except Nat Src) (h : sourceP s = st) (hs : s.size ≤ 281474976710656) (w : World) (hM : ML w) : Calls Tryz.prog 24 #[.string s] w (SrcRet st w) := h ▸ source_is s hs w hM
theorem lives_s1 (w : World) (hM : ML w) : Calls Tryz.prog 24 #[.string ⟨#[42, 46, 69, 88, 46, 99, 111, 109, 58, 42, 47, 97]⟩] w fun e w' => e = .returned (.tuple #[.agg #[.int .u8 5, .string ⟨#[101, 120, 46, 99, 111, 109]⟩, .string ⟨#[]⟩, .bool true, .int .i64 0, .bool false, .bool true, .string ⟨#[47, 97]⟩], .int .i64 0]) ∧ Below w.heap.size w w' := lives_src _ _ lv_s1 (by decide) w hM
theorem lives_s2 (w : World) (hM : ML w) : Calls Tryz.prog 24 #[.string ⟨#[39, 110, 111, 110, 99, 101, 45, 97, 98, 61, 61, 39]⟩] w fun e w' => e = .returned (.tuple #[.agg #[.int .u8 2, .string ⟨#[97, 98, 61, 61]⟩, .string ⟨#[]⟩, .bool false, .int .i64 0, .bool false, .bool false, .string ⟨#[]⟩], .int .i64 0]) ∧ Below w.heap.size w w' := lives_src _ _ lv_s2 (by decide) w hM
theorem lives_s3 (w : World) (hM : ML w) : Calls Tryz.prog 24 #[.string ⟨#[39, 110, 111, 112, 101, 39]⟩] w fun e w' => e = .returned (.tuple #[.agg #[.int .u8 0, .string ⟨#[]⟩, .string ⟨#[]⟩, .bool false, .int .i64 0, .bool false, .bool false, .string ⟨#[]⟩], .int .i64 20]) ∧ Below w.heap.size w w' := lives_src _ _ lv_s3 (by decide) w hM
set_option maxHeartbeats 2000000 in
set_option maxRecDepth 100000 in
theorem lives_is (w : World) (hM : ML w) : Calls Tryz.prog 18 #[] w fun e w' => e = .returned (.bool true) ∧ Below w.heap.size w w' := by
  have HP := Lib.hid (lives_parse w)
  have HM := Lib.hid hM
  unfold lvA at HP
  have HB := Lib.hid (Below.refl w.heap.size w)
  clear hM
  go_enter Tryz.func18, Tryz.ntmps18
  go_wp2_with fail
  refine HP.out.mono ?_
  rintro e w1 ⟨⟨q, c, rfl, hd⟩, hb1⟩
  have HB1 := Lib.hid hb1
  have HD1 := Lib.hid hd
  clear hd hb1 HP
  go_wp2_with fail
  have HP1 := Lib.hid (Has.new w1 (.cells #[.slice q 2 c, .bool false] 25))
  have HB2 := Lib.hid (HB1.out.alloc HB1.out.size (.cells #[.slice q 2 c, .bool false] 25))
  have HD2 := Lib.hid (HD1.out.to (bnew w1 (.cells #[.slice q 2 c, .bool false] 25)))
  refine (lives_s1 _ (HM.out.to HB2.out)).mono ?_
  rintro e w2 ⟨rfl, hb⟩
  have HB3 := Lib.hid ((HB2.out.trans (hb.mono HB2.out.size)).alloc (Nat.le_trans HB2.out.size hb.size) (.cells #[.int .u8 5, .string ⟨#[101, 120, 46, 99, 111, 109]⟩, .string ⟨#[]⟩, .bool true, .int .i64 0, .bool false, .bool true, .string ⟨#[47, 97]⟩] 46))
  have HP3 := Lib.hid ((HP1.out.to hb).alloc (.cells #[.int .u8 5, .string ⟨#[101, 120, 46, 99, 111, 109]⟩, .string ⟨#[]⟩, .bool true, .int .i64 0, .bool false, .bool true, .string ⟨#[47, 97]⟩] 46))
  have HA3 := Lib.hid (Has.new w2 (.cells #[.int .u8 5, .string ⟨#[101, 120, 46, 99, 111, 109]⟩, .string ⟨#[]⟩, .bool true, .int .i64 0, .bool false, .bool true, .string ⟨#[47, 97]⟩] 46))
  have HD3 := Lib.hid ((HD2.out.to hb).to (bnew w2 (.cells #[.int .u8 5, .string ⟨#[101, 120, 46, 99, 111, 109]⟩, .string ⟨#[]⟩, .bool true, .int .i64 0, .bool false, .bool true, .string ⟨#[47, 97]⟩] 46)))
  clear hb HP1 HB1 HB2 HD1 HD2
  go_wp2_with fail
  refine (lives_s2 _ (HM.out.to HB3.out)).mono ?_
  rintro e w3 ⟨rfl, hb⟩
  have HB4 := Lib.hid ((HB3.out.trans (hb.mono HB3.out.size)).alloc (Nat.le_trans HB3.out.size hb.size) (.cells #[.int .u8 2, .string ⟨#[97, 98, 61, 61]⟩, .string ⟨#[]⟩, .bool false, .int .i64 0, .bool false, .bool false, .string ⟨#[]⟩] 46))
  have HP4 := Lib.hid ((HP3.out.to hb).alloc (.cells #[.int .u8 2, .string ⟨#[97, 98, 61, 61]⟩, .string ⟨#[]⟩, .bool false, .int .i64 0, .bool false, .bool false, .string ⟨#[]⟩] 46))
  have HA4 := Lib.hid ((HA3.out.to hb).alloc (.cells #[.int .u8 2, .string ⟨#[97, 98, 61, 61]⟩, .string ⟨#[]⟩, .bool false, .int .i64 0, .bool false, .bool false, .string ⟨#[]⟩] 46))
  have HN4 := Lib.hid (Has.new w3 (.cells #[.int .u8 2, .string ⟨#[97, 98, 61, 61]⟩, .string ⟨#[]⟩, .bool false, .int .i64 0, .bool false, .bool false, .string ⟨#[]⟩] 46))
  have HD4 := Lib.hid ((HD3.out.to hb).to (bnew w3 (.cells #[.int .u8 2, .string ⟨#[97, 98, 61, 61]⟩, .string ⟨#[]⟩, .bool false, .int .i64 0, .bool false, .bool false, .string ⟨#[]⟩] 46)))
  clear hb HB3 HP3 HA3 HD3
  go_wp2_with fail
  refine (lives_s3 _ (HM.out.to HB4.out)).mono ?_
  rintro e w4 ⟨rfl, hb⟩
  have HB5 := Lib.hid ((HB4.out.trans (hb.mono HB4.out.size)).alloc (Nat.le_trans HB4.out.size hb.size) (.cells #[.int .u8 0, .string ⟨#[]⟩, .string ⟨#[]⟩, .bool false, .int .i64 0, .bool false, .bool false, .string ⟨#[]⟩] 46))
  have HP5 := Lib.hid ((HP4.out.to hb).alloc (.cells #[.int .u8 0, .string ⟨#[]⟩, .string ⟨#[]⟩, .bool false, .int .i64 0, .bool false, .bool false, .string ⟨#[]⟩] 46))
  have HA5 := Lib.hid ((HA4.out.to hb).alloc (.cells #[.int .u8 0, .string ⟨#[]⟩, .string ⟨#[]⟩, .bool false, .int .i64 0, .bool false, .bool false, .string ⟨#[]⟩] 46))
  have HN5 := Lib.hid ((HN4.out.to hb).alloc (.cells #[.int .u8 0, .string ⟨#[]⟩, .string ⟨#[]⟩, .bool false, .int .i64 0, .bool false, .bool false, .string ⟨#[]⟩] 46))
  have HD5 := Lib.hid ((HD4.out.to hb).to (bnew w4 (.cells #[.int .u8 0, .string ⟨#[]⟩, .string ⟨#[]⟩, .bool false, .int .i64 0, .bool false, .bool false, .string ⟨#[]⟩] 46)))
  have p0 := HP5.out.cell 0 rfl
  have p1 := HP5.out.cell 1 rfl
  clear hb HB4 HP4 HA4 HN4 HD4
  go_wp2_with fail
  refine (lives_text q c _ HD5.out).mono ?_
  rintro e w5 ⟨rfl, hb⟩
  unfold lvT
  have HB6 := Lib.hid (HB5.out.trans (hb.mono HB5.out.size))
  have HP6 := Lib.hid (HP5.out.to hb)
  have HA6 := Lib.hid (HA5.out.to hb)
  have HN6 := Lib.hid (HN5.out.to hb)
  clear hb HB5 HP5 HA5 HN5 HD5 p0 p1
  have p0 := HP6.out.cell 0 rfl
  have b1 := HN6.out.cell 1 rfl
  have a0 := HA6.out.cell 0 rfl; have a1 := HA6.out.cell 1 rfl; have a2 := HA6.out.cell 2 rfl; have a3 := HA6.out.cell 3 rfl; have a4 := HA6.out.cell 4 rfl; have a5 := HA6.out.cell 5 rfl; have a6 := HA6.out.cell 6 rfl; have a7 := HA6.out.cell 7 rfl
  go_wp2_with fail
  go_ret
  exact ⟨rfl, HB6.out⟩
end Go.Proofs.YtempmmkdppelaaaGreatDoor
/-
  The document's SameAll.
-/
namespace Go.Proofs.YtempmmkdppelaaaGreatDoor
open Go.RowKit
/-- a list of policies lies at v -/
def Pols (w : World) (rep : Bool) (v : Value) (l : List (List Dir)) : Prop :=
  ∃ (p : Option Addr) (cap : Nat), v = .slice p l.length cap ∧ ∀ i x, l[i]? = some x → ∃ g o vs, p = some ⟨g, o, none⟩ ∧ g < w.heap.size ∧ w.cell? ⟨g, o + i * 2, none⟩ = some vs ∧ w.cell? ⟨g, o + i * 2 + 1, none⟩ = some (.bool rep) ∧ Dirs w vs x
theorem Pols.to {w w' : World} {rep : Bool} {v : Value} {l : List (List Dir)} (h : Pols w rep v l) (hb : Below w.heap.size w w') : Pols w' rep v l := by
  obtain ⟨p, cap, hv, hc⟩ := h
  refine ⟨p, cap, hv, fun i x hi => ?_⟩
  obtain ⟨g, o, vs, hp, hg, h1, h2, h3⟩ := hc i x hi
  exact ⟨g, o, vs, hp, Nat.lt_of_lt_of_le hg hb.size, (hb.cell (p := ⟨g, o + i * 2, none⟩) hg).trans h1, (hb.cell (p := ⟨g, o + i * 2 + 1, none⟩) hg).trans h2, h3.to hb⟩
theorem OwnP.lies {W : World} {D : Nat} {rep : Bool} {v : Value} {ps : List RP} (h : OwnP W D rep v ps) : Pols W rep v (ps.map RP.pol) := by
  have hv := h.pols
  rcases h.row.2 with ⟨rfl, h0⟩ | ⟨g, cap, cur, rfl, hb, hgb, hnc, _⟩
  · have : ps = [] := List.eq_nil_of_length_eq_zero h0
    subst this
    exact ⟨none, 0, rfl, fun k x hk => by simp at hk⟩
  · refine ⟨_, cap, by rw [List.length_map], fun k x hk => ?_⟩
    rw [List.getElem?_map] at hk
    obtain ⟨r, hr, rfl⟩ := Option.map_eq_some_iff.1 hk
    have hkl : k < ps.length := (List.getElem?_eq_some_iff.1 hr).1
    have hat : ∀ j, j < 2 → (encP rep ps)[k * 2 + j]? = ([r.v, .bool rep] : List Value)[j]? := fun j hj => by
      have e : encP rep ps = encP rep (ps.take k) ++ ([r.v, .bool rep] ++ encP rep (ps.drop (k + 1))) := by
        conv => lhs; rw [← List.take_append_drop k ps, List.drop_eq_getElem_cons hkl]
        unfold encP
        rw [List.flatMap_append, List.flatMap_cons]
        have : ps[k] = r := (List.getElem?_eq_some_iff.1 hr).2
        rw [this]
      have hl : (encP rep (ps.take k)).length = k * 2 := by rw [encP_len, List.length_take_of_le (by omega)]
      rw [e, List.getElem?_append_right (by omega), hl, Nat.add_sub_cancel_left, List.getElem?_append_left (by simpa using hj)]
    refine ⟨g, 0, r.v, rfl, (Array.getElem?_eq_some_iff.1 hgb).1, ?_, ?_, (hv r (List.mem_of_getElem? hr)).dirs⟩
    · rw [Nat.zero_add, h.row.cellAt (k * 2) (by omega)]; exact hat 0 (by omega)
    · rw [Nat.zero_add, h.row.cellAt (k * 2 + 1) (by omega)]; exact hat 1 (by omega)
theorem sameP_rep (rep : Bool) (a b : List Dir) : sameP rep a rep b = decide (a = b) := by unfold sameP; rw [decide_eq_true rfl, Bool.true_and]
set_option maxHeartbeats 1000000 in
set_option maxRecDepth 100000 in
theorem sameAll_is (va vb : Value) (rep : Bool) (la lb : List (List Dir)) (ma : la.length ≤ 140737488355328) (mb : lb.length ≤ 140737488355328) (za : ∀ x ∈ la, Mod x) (zb : ∀ x ∈ lb, Mod x) (w : World) (ha : Pols w rep va la) (hb : Pols w rep vb lb) (r : Bool) (hr : decide (la = lb) = r) :
    Calls Tryz.prog 20 #[va, vb] w fun e w' => e = .returned (.bool r) ∧ Below w.heap.size w w' := by
  have HPA := Lib.hid ha
  have HPB := Lib.hid hb
  obtain ⟨pa, ca, rfl, _⟩ := ha
  obtain ⟨pb, cb, rfl, _⟩ := hb
  obtain ⟨n, hn⟩ : ∃ n, la.length = n := ⟨_, rfl⟩
  have HR := Lib.hid hr
  have HZA := Lib.hid za
  have HZB := Lib.hid zb
  clear hr za zb
  by_cases hne : la.length = lb.length
  · have hnb : lb.length = n := by omega
    have HN := Lib.hid (And.intro hn hnb)
    rw [hn] at HPA ⊢
    rw [hnb] at HPB ⊢
    rw [hn] at ma
    clear hn hnb mb hne
    have g1 : ((n : Int) != (n : Int)) = false := by simp
    have hm0 : Tryz.prog.follows .mixedOrders = true := by kernel_rfl
    go_enter Tryz.func20, Tryz.ntmps20
    go_wp2_with fail
    go_loopw [13] (fun i wr => ∃ k : Nat, k ≤ n ∧ i = .int .i64 k ∧ Hid (∀ (j : Nat) x y, j < k → la[j]? = some x → lb[j]? = some y → x = y) ∧ Hid (Below w.heap.size w wr)) (fun i _ => n - (intOf i).toNat)
    case atStart => exact ⟨0, by omega, rfl, Lib.hid (fun j x y hj => by omega), Lib.hid (Below.refl _ _)⟩
    case round =>
      obtain ⟨k, hk, rfl, HE, HW⟩ := hrel
      by_cases hlt : k < n
      · have hka : k < la.length := by rw [HN.out.1]; exact hlt
        have hkb : k < lb.length := by rw [HN.out.2]; exact hlt
        obtain ⟨p', c', e', hA⟩ := HPA.out.to HW.out
        simp only [Value.slice.injEq] at e'
        obtain ⟨rfl, -, rfl⟩ := e'
        obtain ⟨g, o, vx, rfl, hg, hx, hy, hz⟩ := hA k la[k] (getT hka)
        obtain ⟨p'', c'', e'', hB⟩ := HPB.out.to HW.out
        simp only [Value.slice.injEq] at e''
        obtain ⟨rfl, -, rfl⟩ := e''
        obtain ⟨g', o', vy, rfl, hg', hx', hy', hz'⟩ := hB k lb[k] (getT hkb)
        have i1 : (k : Int) < (n : Int) := by omega
        have HS := Lib.hid (show la[k] = lb[k] → ∀ (j : Nat) x y, j < k + 1 → la[j]? = some x → lb[j]? = some y → x = y from fun e j x y hj h1 h2 => by
          by_cases hjk : j = k
          · subst hjk; rw [getT hka] at h1; rw [getT hkb] at h2; cases h1; cases h2; exact e
          · exact HE.out j x y (by omega) h1 h2)
        have HF := Lib.hid (show ¬ la[k] = lb[k] → r = false from fun e => by
          rw [← HR.out]
          exact decide_eq_false fun h => e (by subst h; rfl))
        have HZ := Lib.hid hz
        have HZ' := Lib.hid hz'
        have mla := HZA.out la[k] (List.getElem_mem hka)
        have mlb := HZB.out lb[k] (List.getElem_mem hkb)
        clear hA hB HE
        generalize la[k] = x at *
        generalize lb[k] = y at *
        clear hka hkb
        obtain ⟨q, cq, rfl, _⟩ := hz
        obtain ⟨q', cq', rfl, _⟩ := hz'
        have k2 : ∀ p : Later wr, p.v.cell? ⟨g, o + k * 2, none⟩ = some (.slice q x.length cq) := fun p => p.c hx hg
        have k3 : ∀ p : Later wr, p.v.cell? ⟨g, o + k * 2 + 1, none⟩ = some (.bool rep) := fun p => p.c hy hg
        have k4 : ∀ p : Later wr, p.v.cell? ⟨g', o' + k * 2, none⟩ = some (.slice q' y.length cq') := fun p => p.c hx' hg'
        have k5 : ∀ p : Later wr, p.v.cell? ⟨g', o' + k * 2 + 1, none⟩ = some (.bool rep) := fun p => p.c hy' hg'
        obtain ⟨b, hb⟩ : ∃ b, decide (x = y) = b := ⟨_, rfl⟩
        have HSB := Lib.hid (fun (W : World) (h : Below wr.heap.size wr W) => same14_is (.slice q x.length cq) (.slice q' y.length cq') x y rep rep mla mlb W (HZ.out.to h) (HZ'.out.to h) b (by rw [sameP_rep]; exact hb))
        clear hx hy hx' hy' mla mlb
        cases b with
        | true =>
          have HS2 := Lib.hid (HS.out (of_decide_eq_true hb))
          clear HS HF hb
          go_wp2_with fail
          refine wp_region_quiet_later (by assumption) (by kernel_rfl) ?_
          repeat (go_big_quiet_step ((go_at_call 19; exact Calls.later_of (HSB.out _ (Later.h _)))))
          refine wpQuiet_nil ?_
          rintro w2 ⟨⟨_, h2⟩, rfl⟩
          go_wp2
          go_roundw
          case rel => exact ⟨k + 1, by omega, by go_num, HS2, Lib.hid (HW.out.trans (h2.mono HW.out.size))⟩
          case measure => simp [intOf]; omega
        | false =>
          have HF2 := Lib.hid (HF.out (of_decide_eq_false hb))
          clear HS HF hb
          go_wp2_with fail
          refine wp_region_quiet_later (by assumption) (by kernel_rfl) ?_
          repeat (go_big_quiet_step ((go_at_call 19; exact Calls.later_of (HSB.out _ (Later.h _)))))
          refine wpQuiet_nil ?_
          rintro w2 ⟨⟨_, h2⟩, rfl⟩
          go_wp2
          go_ret
          exact ⟨ret_bool HF2.out.symm, HW.out.trans (h2.mono HW.out.size)⟩
      · have HT := Lib.hid (show r = true by
          rw [← HR.out]
          exact decide_eq_true (eq_of_get (HN.out.1.trans HN.out.2.symm) fun j x y hj h1 h2 => HE.out j x y (by rw [HN.out.1] at hj; omega) h1 h2))
        have hkn : k = n := by omega
        clear HE
        go_wp2_with fail
        go_ret
        exact ⟨ret_bool HT.out.symm, HW.out⟩
  · have g1 : ((la.length : Int) != (lb.length : Int)) = true := by rw [bne_iff_ne]; omega
    have HF := Lib.hid (show r = false by rw [← HR.out]; exact decide_eq_false fun h => hne (by rw [h]))
    clear hn hne
    go_enter Tryz.func20, Tryz.ntmps20
    go_wp2_with fail
    go_ret
    exact ⟨ret_bool HF.out.symm, Below.refl _ _⟩
end Go.Proofs.YtempmmkdppelaaaGreatDoor
