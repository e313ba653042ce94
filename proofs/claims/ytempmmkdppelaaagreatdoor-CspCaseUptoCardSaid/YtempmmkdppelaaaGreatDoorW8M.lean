import Derived.Test.YtempmmkdppelaaaGreatDoorCAM
import Derived.Test.YtempmmkdppelaaaGreatDoorU3M
/-
  The walk of CspCase.
-/
namespace Go.Proofs.YtempmmkdppelaaaGreatDoor
open Go.RowKit
def srX (st : Except Nat Src) : Src := match st with | .error _ => {} | .ok x => x
def srC (st : Except Nat Src) : Nat := match st with | .error c => c | .ok _ => 0
theorem source_any (s : ByteArray) (x : Src) (c : Nat) (hx : srX (sourceP s) = x) (hc : srC (sourceP s) = c) (hs : s.size ≤ 281474976710656) (w : World) (hM : ML w) :
    Calls Tryz.prog 24 #[.string s] w fun e w' => e = .returned (.tuple #[.agg #[.int .u8 x.kind, .string x.text, .string x.scheme, .bool x.wild, .int .i64 x.port, .bool x.hasPort, .bool x.anyPort, .string x.path], .int .i64 c]) ∧ Below w.heap.size w w' := by
  refine (source_is s hs w hM).mono ?_
  rintro e w' ⟨h, hb⟩
  refine ⟨?_, hb⟩
  cases hst : sourceP s with
  | error c' => rw [hst] at h hx hc; subst hx; subst hc; exact h
  | ok x' => rw [hst] at h hx hc; subst hx; subst hc; exact h
theorem case_facts (s t : ByteArray) (ht : t = ⟨(up s.data.toList).toArray⟩) : srC (sourceP s) = srC (sourceP t) ∧ (srX (sourceP s)).kind = (srX (sourceP t)).kind ∧ (srX (sourceP s)).kind ≤ 5 ∧
    (srC (sourceP s) = 0 → (srX (sourceP s)).kind ≠ 2 → (srX (sourceP s)).kind ≠ 3 → noPath (srX (sourceP s)) = noPath (srX (sourceP t))) := by
  have hz : t.size = s.size := by rw [ht, ← Ks.len_list, ← Ks.len_list]; simp [up]
  have htl : t.data.toList = up s.data.toList := by rw [ht]
  unfold sourceP
  rw [hz, htl]
  by_cases h4 : 4096 < s.size
  · rw [if_pos h4, if_pos h4]; exact ⟨rfl, rfl, by decide, fun h => by cases h⟩
  · rw [if_neg h4, if_neg h4]
    have h := source_upp s.data.toList
    cases h1 : sourceD s.data.toList with
    | none =>
      cases h2 : sourceD (up s.data.toList) with
      | none => exact ⟨rfl, rfl, by decide, fun h => by cases h⟩
      | some y => rw [h1, h2] at h; exact h.elim
    | some x =>
      cases h2 : sourceD (up s.data.toList) with
      | none => rw [h1, h2] at h; exact h.elim
      | some y =>
        rw [h1, h2] at h
        exact ⟨rfl, h.1, h.2.1, fun _ => h.2.2⟩
set_option maxHeartbeats 2000000 in
set_option maxRecDepth 100000 in
theorem CspCase_std (s : ByteArray) (hs : s.size ≤ 1048576) (w : World) (hM : ML w) :
    Calls Tryz.prog 8 #[.string s] w fun e w' => e = .returned (.bool true) ∧ Below w.heap.size w w' := by
  have HL := Lib.hid (lives_is w hM)
  have HM := Lib.hid hM
  clear hM
  obtain ⟨t, ht⟩ : ∃ t : ByteArray, t = ⟨(up s.data.toList).toArray⟩ := ⟨_, rfl⟩
  have hts : t.size ≤ 1048576 := by
    have hz : t.size = s.size := by rw [ht, ← Ks.len_list, ← Ks.len_list]; simp [up]
    omega
  have HU := Lib.hid (show ∀ W : World, Calls Tryz.prog 30 #[.string s] W fun e w' => e = .returned (.string t) ∧ Below W.heap.size W w' from fun W => ht ▸ upper_any s (by unfold maxLen; omega) W)
  have hF := case_facts s t ht
  obtain ⟨x, hx⟩ : ∃ x, srX (sourceP s) = x := ⟨_, rfl⟩
  obtain ⟨c, hc⟩ : ∃ c, srC (sourceP s) = c := ⟨_, rfl⟩
  obtain ⟨y, hy⟩ : ∃ y, srX (sourceP t) = y := ⟨_, rfl⟩
  obtain ⟨d, hd⟩ : ∃ d, srC (sourceP t) = d := ⟨_, rfl⟩
  have HS1 := Lib.hid (fun (W : World) (h : ML W) => source_any s x c hx hc (by omega) W h)
  have HS2 := Lib.hid (fun (W : World) (h : ML W) => source_any t y d hy hd (by omega) W h)
  rw [hx, hc, hy, hd] at hF
  obtain ⟨rfl, hk, hk5, hp⟩ := hF
  clear hx hc hy hd ht
  obtain ⟨k, xt, xs, xw, xp, xh, xa, xq⟩ := x
  obtain ⟨k', yt, ys, yw, yp, yh, ya, yq⟩ := y
  simp only at hk hk5 HS1 HS2 hp
  subst hk
  have HP := Lib.hid hp
  clear hp
  have g0 : ((c : Int) != (c : Int)) = false := by simp
  go_enter Tryz.func8, Tryz.ntmps8
  go_wp2_with (go_at_call 18; refine HL.out.mono ?_; rintro e w1 ⟨rfl, hb1⟩; have HB1 := Lib.hid hb1; clear hb1)
  refine (HS1.out _ (HM.out.to HB1.out)).mono ?_
  rintro e w2 ⟨rfl, hb2⟩
  have HB2 := Lib.hid (HB1.out.trans (hb2.mono HB1.out.size))
  have HX2 := Lib.hid (Has.new w2 (.cells #[.int .u8 k, .string xt, .string xs, .bool xw, .int .i64 xp, .bool xh, .bool xa, .string xq] 46))
  clear hb2 HB1 HL
  go_wp2_with fail
  refine (HU.out _).mono ?_
  rintro e w3 ⟨rfl, hb3⟩
  have HB3 := Lib.hid ((HB2.out.alloc HB2.out.size (.cells #[.int .u8 k, .string xt, .string xs, .bool xw, .int .i64 xp, .bool xh, .bool xa, .string xq] 46)).trans (hb3.mono (by have := HB2.out.size; simp; omega)))
  have HX3 := Lib.hid (HX2.out.to hb3)
  have HLW := Lib.hid HB2.out.size
  clear hb3 HB2 HX2
  go_wp2_with fail
  refine (HS2.out _ (HM.out.to HB3.out)).mono ?_
  rintro e w4 ⟨rfl, hb4⟩
  have HX4 := Lib.hid ((HX3.out.to hb4).alloc (.cells #[.int .u8 k, .string yt, .string ys, .bool yw, .int .i64 yp, .bool yh, .bool ya, .string yq] 46))
  have HY4 := Lib.hid (Has.new w4 (.cells #[.int .u8 k, .string yt, .string ys, .bool yw, .int .i64 yp, .bool yh, .bool ya, .string yq] 46))
  have HB4 := Lib.hid ((HB3.out.trans (hb4.mono HB3.out.size)).alloc (by have := HB3.out.size; have := hb4.size; omega) (.cells #[.int .u8 k, .string yt, .string ys, .bool yw, .int .i64 yp, .bool yh, .bool ya, .string yq] 46))
  have HLT := Lib.hid (show w2.heap.size < w4.heap.size from Nat.lt_of_lt_of_le HX3.out.lt hb4.size)
  have HLE := Lib.hid (show w.heap.size ≤ w2.heap.size from HLW.out)
  clear hb4 HB3 HX3
  have x0 := HX4.out.cell 0 rfl
  have y0 := HY4.out.cell 0 rfl
  by_cases hc0 : c = 0
  · have gc : ((c : Int) != 0) = false := by rw [bne_eq_false_iff_eq]; omega
    by_cases h2 : k = 2
    · have g2 : ((k : Int) == 2) = true := beq_iff_eq.2 (by omega)
      clear h2 hc0
      go_wp2_with fail
      go_ret
      exact ⟨rfl, HB4.out⟩
    · have g2 : ((k : Int) == 2) = false := beq_eq_false_iff_ne.2 (by omega)
      by_cases h3 : k = 3
      · have g3 : ((k : Int) == 3) = true := beq_iff_eq.2 (by omega)
        clear h2 h3 hc0
        go_wp2_with fail
        go_ret
        exact ⟨rfl, HB4.out⟩
      · have g3 : ((k : Int) == 3) = false := beq_eq_false_iff_ne.2 (by omega)
        have hnp := HP.out hc0 h2 h3
        simp only [noPath, Src.mk.injEq, and_true, true_and] at hnp
        obtain ⟨rfl, rfl, rfl, rfl, rfl, rfl⟩ := hnp
        clear HP h2 h3 hc0
        have hne : w2.heap.size < w4.heap.size := HLT.out
        have x7 := HX4.out.cell 7 rfl
        have xf := HX4.out.free 7
        have HX6 := Lib.hid ((HX4.out.set 7 (.string ⟨#[]⟩)).far (p := ⟨w4.heap.size, 7, none⟩) (show w2.heap.size ≠ w4.heap.size by omega) (.string ⟨#[]⟩))
        have HY5 := Lib.hid (HY4.out.far (p := ⟨w2.heap.size, 7, none⟩) (show w4.heap.size ≠ w2.heap.size by omega) (.string ⟨#[]⟩))
        have HY6 := Lib.hid (HY5.out.set 7 (.string ⟨#[]⟩))
        have HB6 := Lib.hid ((HB4.out.setCell (p := ⟨w2.heap.size, 7, none⟩) HLE.out (.string ⟨#[]⟩)).setCell (p := ⟨w4.heap.size, 7, none⟩) (Nat.le_trans HLE.out (Nat.le_of_lt hne)) (.string ⟨#[]⟩))
        have y7 := HY5.out.cell 7 rfl
        have yf := HY5.out.free 7
        clear HX4 HY4 HY5 hne
        have x0 := HX6.out.cell 0 rfl
        have y0' := HY6.out.cell 0 rfl
        have x1 := HX6.out.cell 1 rfl
        have y1' := HY6.out.cell 1 rfl
        have x2 := HX6.out.cell 2 rfl
        have y2' := HY6.out.cell 2 rfl
        have x3 := HX6.out.cell 3 rfl
        have y3' := HY6.out.cell 3 rfl
        have x4 := HX6.out.cell 4 rfl
        have y4' := HY6.out.cell 4 rfl
        have x5 := HX6.out.cell 5 rfl
        have y5' := HY6.out.cell 5 rfl
        have x6 := HX6.out.cell 6 rfl
        have y6' := HY6.out.cell 6 rfl
        have x7' := HX6.out.cell 7 rfl
        have y7' := HY6.out.cell 7 rfl
        have x0' := HX6.out.cell 0 rfl
        go_wp2_with fail
        go_ret
        exact ⟨rfl, HB6.out⟩
  · have g1 : ((c : Int) != 0) = true := by rw [bne_iff_ne]; omega
    go_wp2_with fail
    go_ret
    exact ⟨rfl, HB4.out⟩
end Go.Proofs.YtempmmkdppelaaaGreatDoor
/-
  The document's SameAll.
-/
namespace Go.Proofs.YtempmmkdppelaaaGreatDoor
open Go.RowKit
/-- a list of policies lies at v -/
def Pols (w : World) (rep : Bool) (v : Value) (l : List (List Dir)) : Prop :=
  ∃ (p : Option Addr) (cap : Nat), v = .slice p l.length cap ∧ ∀ i x, l[i]? = some x → ∃ g o vs, p = some ⟨g, o, none⟩ ∧ g < w.heap.size ∧ w.cell? ⟨g, o + i * 2, none⟩ = some vs ∧ w.cell? ⟨g, o + i * 2 + 1, none⟩ = some (.bool rep) ∧ Dirs w vs x
theorem Pols.to {w w' : World} {rep : Bool} {v : Value} {l : List (List Dir)} (h : Pols w rep v l) (hb : Below w.heap.size w w') : Pols w' rep v l := by
  obtain ⟨p, cap, hv, hc⟩ := h
  refine ⟨p, cap, hv, fun i x hi => ?_⟩
  obtain ⟨g, o, vs, hp, hg, h1, h2, h3⟩ := hc i x hi
  exact ⟨g, o, vs, hp, Nat.lt_of_lt_of_le hg hb.size, (hb.cell (p := ⟨g, o + i * 2, none⟩) hg).trans h1, (hb.cell (p := ⟨g, o + i * 2 + 1, none⟩) hg).trans h2, h3.to hb⟩
theorem OwnP.lies {W : World} {D : Nat} {rep : Bool} {v : Value} {ps : List RP} (h : OwnP W D rep v ps) : Pols W rep v (ps.map RP.pol) := by
  have hv := h.pols
  rcases h.row.2 with ⟨rfl, h0⟩ | ⟨g, cap, cur, rfl, hb, hgb, hnc, _⟩
  · have : ps = [] := List.eq_nil_of_length_eq_zero h0
    subst this
    exact ⟨none, 0, rfl, fun k x hk => by simp at hk⟩
  · refine ⟨_, cap, by rw [List.length_map], fun k x hk => ?_⟩
    rw [List.getElem?_map] at hk
    obtain ⟨r, hr, rfl⟩ := Option.map_eq_some_iff.1 hk
    have hkl : k < ps.length := (List.getElem?_eq_some_iff.1 hr).1
    have hat : ∀ j, j < 2 → (encP rep ps)[k * 2 + j]? = ([r.v, .bool rep] : List Value)[j]? := fun j hj => by
      have e : encP rep ps = encP rep (ps.take k) ++ ([r.v, .bool rep] ++ encP rep (ps.drop (k + 1))) := by
        conv => lhs; rw [← List.take_append_drop k ps, List.drop_eq_getElem_cons hkl]
        unfold encP
        rw [List.flatMap_append, List.flatMap_cons]
        have : ps[k] = r := (List.getElem?_eq_some_iff.1 hr).2
        rw [this]
      have hl : (encP rep (ps.take k)).length = k * 2 := by rw [encP_len, List.length_take_of_le (by omega)]
      rw [e, List.getElem?_append_right (by omega), hl, Nat.add_sub_cancel_left, List.getElem?_append_left (by simpa using hj)]
    refine ⟨g, 0, r.v, rfl, (Array.getElem?_eq_some_iff.1 hgb).1, ?_, ?_, (hv r (List.mem_of_getElem? hr)).dirs⟩
    · rw [Nat.zero_add, h.row.cellAt (k * 2) (by omega)]; exact hat 0 (by omega)
    · rw [Nat.zero_add, h.row.cellAt (k * 2 + 1) (by omega)]; exact hat 1 (by omega)
theorem sameP_rep (rep : Bool) (a b : List Dir) : sameP rep a rep b = decide (a = b) := by unfold sameP; rw [decide_eq_true rfl, Bool.true_and]
set_option maxHeartbeats 1000000 in
set_option maxRecDepth 100000 in
theorem sameAll_is (va vb : Value) (rep : Bool) (la lb : List (List Dir)) (ma : la.length ≤ 140737488355328) (mb : lb.length ≤ 140737488355328) (za : ∀ x ∈ la, Mod x) (zb : ∀ x ∈ lb, Mod x) (w : World) (ha : Pols w rep va la) (hb : Pols w rep vb lb) (r : Bool) (hr : decide (la = lb) = r) :
    Calls Tryz.prog 20 #[va, vb] w fun e w' => e = .returned (.bool r) ∧ Below w.heap.size w w' := by
  have HPA := Lib.hid ha
  have HPB := Lib.hid hb
  obtain ⟨pa, ca, rfl, _⟩ := ha
  obtain ⟨pb, cb, rfl, _⟩ := hb
  obtain ⟨n, hn⟩ : ∃ n, la.length = n := ⟨_, rfl⟩
  have HR := Lib.hid hr
  have HZA := Lib.hid za
  have HZB := Lib.hid zb
  clear hr za zb
  by_cases hne : la.length = lb.length
  · have hnb : lb.length = n := by omega
    have HN := Lib.hid (And.intro hn hnb)
    rw [hn] at HPA ⊢
    rw [hnb] at HPB ⊢
    rw [hn] at ma
    clear hn hnb mb hne
    have g1 : ((n : Int) != (n : Int)) = false := by simp
    have hm0 : Tryz.prog.follows .mixedOrders = true := by kernel_rfl
    go_enter Tryz.func20, Tryz.ntmps20
    go_wp2_with fail
    go_loopw [13] (fun i wr => ∃ k : Nat, k ≤ n ∧ i = .int .i64 k ∧ Hid (∀ (j : Nat) x y, j < k → la[j]? = some x → lb[j]? = some y → x = y) ∧ Hid (Below w.heap.size w wr)) (fun i _ => n - (intOf i).toNat)
    case atStart => exact ⟨0, by omega, rfl, Lib.hid (fun j x y hj => by omega), Lib.hid (Below.refl _ _)⟩
    case round =>
      obtain ⟨k, hk, rfl, HE, HW⟩ := hrel
      by_cases hlt : k < n
      · have hka : k < la.length := by rw [HN.out.1]; exact hlt
        have hkb : k < lb.length := by rw [HN.out.2]; exact hlt
        obtain ⟨p', c', e', hA⟩ := HPA.out.to HW.out
        simp only [Value.slice.injEq] at e'
        obtain ⟨rfl, -, rfl⟩ := e'
        obtain ⟨g, o, vx, rfl, hg, hx, hy, hz⟩ := hA k la[k] (getT hka)
        obtain ⟨p'', c'', e'', hB⟩ := HPB.out.to HW.out
        simp only [Value.slice.injEq] at e''
        obtain ⟨rfl, -, rfl⟩ := e''
        obtain ⟨g', o', vy, rfl, hg', hx', hy', hz'⟩ := hB k lb[k] (getT hkb)
        have i1 : (k : Int) < (n : Int) := by omega
        have HS := Lib.hid (show la[k] = lb[k] → ∀ (j : Nat) x y, j < k + 1 → la[j]? = some x → lb[j]? = some y → x = y from fun e j x y hj h1 h2 => by
          by_cases hjk : j = k
          · subst hjk; rw [getT hka] at h1; rw [getT hkb] at h2; cases h1; cases h2; exact e
          · exact HE.out j x y (by omega) h1 h2)
        have HF := Lib.hid (show ¬ la[k] = lb[k] → r = false from fun e => by
          rw [← HR.out]
          exact decide_eq_false fun h => e (by subst h; rfl))
        have HZ := Lib.hid hz
        have HZ' := Lib.hid hz'
        have mla := HZA.out la[k] (List.getElem_mem hka)
        have mlb := HZB.out lb[k] (List.getElem_mem hkb)
        clear hA hB HE
        generalize la[k] = x at *
        generalize lb[k] = y at *
        clear hka hkb
        obtain ⟨q, cq, rfl, _⟩ := hz
        obtain ⟨q', cq', rfl, _⟩ := hz'
        have k2 : ∀ p : Later wr, p.v.cell? ⟨g, o + k * 2, none⟩ = some (.slice q x.length cq) := fun p => p.c hx hg
        have k3 : ∀ p : Later wr, p.v.cell? ⟨g, o + k * 2 + 1, none⟩ = some (.bool rep) := fun p => p.c hy hg
        have k4 : ∀ p : Later wr, p.v.cell? ⟨g', o' + k * 2, none⟩ = some (.slice q' y.length cq') := fun p => p.c hx' hg'
        have k5 : ∀ p : Later wr, p.v.cell? ⟨g', o' + k * 2 + 1, none⟩ = some (.bool rep) := fun p => p.c hy' hg'
        obtain ⟨b, hb⟩ : ∃ b, decide (x = y) = b := ⟨_, rfl⟩
        have HSB := Lib.hid (fun (W : World) (h : Below wr.heap.size wr W) => same14_is (.slice q x.length cq) (.slice q' y.length cq') x y rep rep mla mlb W (HZ.out.to h) (HZ'.out.to h) b (by rw [sameP_rep]; exact hb))
        clear hx hy hx' hy' mla mlb
        cases b with
        | true =>
          have HS2 := Lib.hid (HS.out (of_decide_eq_true hb))
          clear HS HF hb
          go_wp2_with fail
          refine wp_region_quiet_later (by assumption) (by kernel_rfl) ?_
          repeat (go_big_quiet_step ((go_at_call 19; exact Calls.later_of (HSB.out _ (Later.h _)))))
          refine wpQuiet_nil ?_
          rintro w2 ⟨⟨_, h2⟩, rfl⟩
          go_wp2
          go_roundw
          case rel => exact ⟨k + 1, by omega, by go_num, HS2, Lib.hid (HW.out.trans (h2.mono HW.out.size))⟩
          case measure => simp [intOf]; omega
        | false =>
          have HF2 := Lib.hid (HF.out (of_decide_eq_false hb))
          clear HS HF hb
          go_wp2_with fail
          refine wp_region_quiet_later (by assumption) (by kernel_rfl) ?_
          repeat (go_big_quiet_step ((go_at_call 19; exact Calls.later_of (HSB.out _ (Later.h _)))))
          refine wpQuiet_nil ?_
          rintro w2 ⟨⟨_, h2⟩, rfl⟩
          go_wp2
          go_ret
          exact ⟨ret_bool HF2.out.symm, HW.out.trans (h2.mono HW.out.size)⟩
      · have HT := Lib.hid (show r = true by
          rw [← HR.out]
          exact decide_eq_true (eq_of_get (HN.out.1.trans HN.out.2.symm) fun j x y hj h1 h2 => HE.out j x y (by rw [HN.out.1] at hj; omega) h1 h2))
        have hkn : k = n := by omega
        clear HE
        go_wp2_with fail
        go_ret
        exact ⟨ret_bool HT.out.symm, HW.out⟩
  · have g1 : ((la.length : Int) != (lb.length : Int)) = true := by rw [bne_iff_ne]; omega
    have HF := Lib.hid (show r = false by rw [← HR.out]; exact decide_eq_false fun h => hne (by rw [h]))
    clear hn hne
    go_enter Tryz.func20, Tryz.ntmps20
    go_wp2_with fail
    go_ret
    exact ⟨ret_bool HF.out.symm, Below.refl _ _⟩
end Go.Proofs.YtempmmkdppelaaaGreatDoor
