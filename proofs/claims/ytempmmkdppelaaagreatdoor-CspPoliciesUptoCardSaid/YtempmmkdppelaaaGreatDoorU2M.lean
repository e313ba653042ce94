import Derived.Test.YtempmmkdppelaaaGreatDoorT4M
import Derived.Test.YtempmmkdppelaaaGreatDoorD9M
/-
  The document's Same.
-/
namespace Go.Proofs.YtempmmkdppelaaaGreatDoor
open Go.RowKit
/-- two policies are one -/
def sameP (ra : Bool) (la : List Dir) (rb : Bool) (lb : List Dir) : Bool := decide (ra = rb) && decide (la = lb)
theorem sameD_iff (a b : Dir) : sameD a b = true ↔ a = b := by
  unfold sameD
  rw [Bool.and_eq_true, decide_eq_true_iff, decide_eq_true_iff, Prod.ext_iff]
/-- lists of directives that are not beyond all bounds -/
def Mod (l : List Dir) : Prop := l.length ≤ 4294967296 ∧ ∀ x ∈ l, x.2.length ≤ 140737488355328
set_option maxHeartbeats 2000000 in
set_option maxRecDepth 100000 in
theorem same14_is (va vb : Value) (la lb : List Dir) (ra rb : Bool) (ma : Mod la) (mb : Mod lb) (w : World) (ha : Dirs w va la) (hb : Dirs w vb lb) (r : Bool) (hr : sameP ra la rb lb = r) :
    Calls Tryz.prog 19 #[.agg #[va, .bool ra], .agg #[vb, .bool rb]] w fun e w' => e = .returned (.bool r) ∧ Below w.heap.size w w' := by
  have ha0 := ha
  have hb0 := hb
  obtain ⟨pa, ca, rfl, hca, _⟩ := ha
  obtain ⟨pb, cb, rfl, hcb, _⟩ := hb
  obtain ⟨X, hX⟩ : ∃ X, (w.alloc (.cells #[.slice pa la.length ca, .bool ra] 25)).alloc (.cells #[.slice pb lb.length cb, .bool rb] 25) = X := ⟨_, rfl⟩
  have hB0 : Below w.heap.size w X := hX ▸ (bnew w _).alloc (by simp) _
  have hs0 : X.heap.size = w.heap.size + 2 := by rw [← hX]; simp
  have h0 : Has X w.heap.size (.cells #[.slice pa la.length ca, .bool ra] 25) := hX ▸ (Has.new w _).alloc _
  have h1 : Has X (w.heap.size + 1) (.cells #[.slice pb lb.length cb, .bool rb] 25) := by
    have := Has.new (w.alloc (.cells #[.slice pa la.length ca, .bool ra] 25)) (.cells #[.slice pb lb.length cb, .bool rb] 25)
    rw [hX, World.size_alloc] at this; exact this
  have hDA := ha0.to hB0
  have hDB := hb0.to hB0
  obtain ⟨n, hn⟩ : ∃ n, la.length = n := ⟨_, rfl⟩
  rw [hn] at hX h0 hDA hca ⊢
  have H0 := Lib.hid h0
  have H1 := Lib.hid h1
  have HB := Lib.hid hB0
  have HR := Lib.hid hr
  have HDA := Lib.hid hDA
  have HDB := Lib.hid hDB
  have HMA := Lib.hid ma
  have HMB := Lib.hid mb
  have a0 := h0.cell 0 rfl
  have a1 := h0.cell 1 rfl
  have b0 := h1.cell 0 rfl
  have b1 := h1.cell 1 rfl
  have mn : n ≤ 4294967296 := by rw [← hn]; exact ma.1
  clear ha0 hb0 hB0 h0 h1 hDA hDB hr ma mb
  by_cases hrr : ra = rb
  · subst hrr
    have g1 : (ra == ra) = true := by simp
    have g1' : (ra != ra) = false := by simp
    by_cases hne : n = lb.length
    · rw [← hne] at hX b0 H1 HDB hcb ⊢
      have HN := Lib.hid (And.intro hn hne)
      have g2 : ((n : Int) != (n : Int)) = false := by simp
      clear hn hne
      have hm0 : Tryz.prog.follows .mixedOrders = true := by kernel_rfl
      go_enter Tryz.func19, Tryz.ntmps19
      go_wp2_with fail
      clear hX
      go_loopw [23] (fun i wr => ∃ k : Nat, k ≤ n ∧ i = .int .i64 k ∧ Hid (∀ (j : Nat) x y, j < k → la[j]? = some x → lb[j]? = some y → x = y) ∧ Hid (Below X.heap.size X wr)) (fun i _ => n - (intOf i).toNat)
      case atStart => exact ⟨0, by omega, rfl, Lib.hid (fun j x y hj => by omega), Lib.hid (Below.refl _ _)⟩
      case round =>
        obtain ⟨k, hk, rfl, HE, HW⟩ := hrel
        by_cases hlt : k < n
        · have hka : k < la.length := by rw [HN.out.1]; exact hlt
          have hkb : k < lb.length := by rw [← HN.out.2]; exact hlt
          obtain ⟨p', c', e', _, hA⟩ := HDA.out.to HW.out
          simp only [Value.slice.injEq] at e'
          obtain ⟨rfl, -, rfl⟩ := e'
          obtain ⟨g, o, vx, rfl, hg, hx, hy, hz⟩ := hA k la[k] (getT hka)
          obtain ⟨p'', c'', e'', _, hB⟩ := HDB.out.to HW.out
          simp only [Value.slice.injEq] at e''
          obtain ⟨rfl, -, rfl⟩ := e''
          obtain ⟨g', o', vy, rfl, hg', hx', hy', hz'⟩ := hB k lb[k] (getT hkb)
          have i1 : (k : Int) < (n : Int) := by omega
          have HS := Lib.hid (show la[k] = lb[k] → ∀ (j : Nat) x y, j < k + 1 → la[j]? = some x → lb[j]? = some y → x = y from fun e j x y hj h1 h2 => by
            by_cases hjk : j = k
            · subst hjk; rw [getT hka] at h1; rw [getT hkb] at h2; cases h1; cases h2; exact e
            · exact HE.out j x y (by omega) h1 h2)
          have HF := Lib.hid (show ¬ la[k] = lb[k] → r = false from fun e => by
            rw [← HR.out]
            unfold sameP
            rw [decide_eq_false (p := la = lb) (fun h => e (by subst h; rfl)), Bool.and_false])
          have HZ := Lib.hid hz
          have HZ' := Lib.hid hz'
          have mla := HMA.out.2 la[k] (List.getElem_mem hka)
          have mlb := HMB.out.2 lb[k] (List.getElem_mem hkb)
          clear hA hB HE
          generalize la[k] = x at *
          generalize lb[k] = y at *
          clear hka hkb
          obtain ⟨xn, xv⟩ := x
          obtain ⟨yn, yv⟩ := y
          obtain ⟨q, cq, rfl, _⟩ := hz
          obtain ⟨q', cq', rfl, _⟩ := hz'
          have HSD := Lib.hid (fun (r : Bool) (hr : sameD (xn, xv) (yn, yv) = r) (W : World) (h : Below wr.heap.size wr W) => sameDirective_is (.slice q xv.length cq) (.slice q' yv.length cq') (xn, xv) (yn, yv) mla mlb W (HZ.out.to h) (HZ'.out.to h) r hr)
          have hrX := HW.out.size
          have k0 : ∀ p : Later wr, p.v.cell? ⟨w.heap.size, 0, none⟩ = some (.slice (some ⟨g, o, none⟩) n ca) := fun p => p.c ((HW.out.cell (p := ⟨w.heap.size, 0, none⟩) (show w.heap.size < X.heap.size by omega)).trans a0) (by omega)
          have k1 : ∀ p : Later wr, p.v.cell? ⟨w.heap.size + 1, 0, none⟩ = some (.slice (some ⟨g', o', none⟩) n cb) := fun p => p.c ((HW.out.cell (p := ⟨w.heap.size + 1, 0, none⟩) (show w.heap.size + 1 < X.heap.size by omega)).trans b0) (by omega)
          have k2 : ∀ p : Later wr, p.v.cell? ⟨g, o + k * 2, none⟩ = some (.string xn) := fun p => p.c hx hg
          have k3 : ∀ p : Later wr, p.v.cell? ⟨g, o + k * 2 + 1, none⟩ = some (.slice q xv.length cq) := fun p => p.c hy hg
          have k4 : ∀ p : Later wr, p.v.cell? ⟨g', o' + k * 2, none⟩ = some (.string yn) := fun p => p.c hx' hg'
          have k5 : ∀ p : Later wr, p.v.cell? ⟨g', o' + k * 2 + 1, none⟩ = some (.slice q' yv.length cq') := fun p => p.c hy' hg'
          obtain ⟨b, hb⟩ : ∃ b, sameD (xn, xv) (yn, yv) = b := ⟨_, rfl⟩
          have HSB := Lib.hid (HSD.out b hb)
          clear HSD hx hy hx' hy'
          cases b with
          | true =>
            have HS2 := Lib.hid (HS.out ((sameD_iff _ _).1 hb))
            clear HS HF hb
            go_wp2_with fail
            refine wp_region_quiet_later (by assumption) (by kernel_rfl) ?_
            repeat (go_big_quiet_step ((go_at_call 23; exact Calls.later_of (HSB.out _ (Later.h _)))))
            refine wpQuiet_nil ?_
            rintro w2 ⟨⟨_, h2⟩, rfl⟩
            go_wp2
            go_roundw
            case rel => exact ⟨k + 1, by omega, by go_num, HS2, Lib.hid (HW.out.trans (h2.mono hrX))⟩
            case measure => simp [intOf]; omega
          | false =>
            have HF2 := Lib.hid (HF.out fun h => by rw [(sameD_iff _ _).2 h] at hb; cases hb)
            clear HS HF hb
            go_wp2_with fail
            refine wp_region_quiet_later (by assumption) (by kernel_rfl) ?_
            repeat (go_big_quiet_step ((go_at_call 23; exact Calls.later_of (HSB.out _ (Later.h _)))))
            refine wpQuiet_nil ?_
            rintro w2 ⟨⟨_, h2⟩, rfl⟩
            go_wp2
            go_ret
            exact ⟨ret_bool HF2.out.symm, HB.out.trans ((HW.out.trans (h2.mono hrX)).mono (by omega))⟩
        · have HT := Lib.hid (show r = true by
            rw [← HR.out]
            unfold sameP
            rw [decide_eq_true rfl, Bool.true_and]
            exact decide_eq_true (eq_of_get (HN.out.1.trans HN.out.2) fun j x y hj h1 h2 => HE.out j x y (by rw [HN.out.1] at hj; omega) h1 h2))
          have hkn : k = n := by omega
          clear HE
          go_wp2_with fail
          go_ret
          exact ⟨ret_bool HT.out.symm, HB.out.trans (HW.out.mono (by omega))⟩
    · have g2 : ((n : Int) != (lb.length : Int)) = true := by rw [bne_iff_ne]; omega
      have HF := Lib.hid (show r = false by
        rw [← HR.out]
        unfold sameP
        rw [decide_eq_false (p := la = lb) (fun h => hne (by rw [← hn, h])), Bool.and_false])
      clear hn hne
      go_enter Tryz.func19, Tryz.ntmps19
      go_wp2_with fail
      go_ret
      exact ⟨ret_bool HF.out.symm, HB.out⟩
  · have HF := Lib.hid (show r = false by
      rw [← HR.out]
      unfold sameP
      rw [decide_eq_false hrr, Bool.false_and])
    have g1 : (ra == rb) = false := beq_eq_false_iff_ne.2 hrr
    have g1' : (ra != rb) = true := by rw [bne_iff_ne]; exact hrr
    clear hrr
    go_enter Tryz.func19, Tryz.ntmps19
    go_wp2_with fail
    go_ret
    exact ⟨ret_bool HF.out.symm, HB.out⟩
end Go.Proofs.YtempmmkdppelaaaGreatDoor
/-
  csp's Parse, whatever the text.
-/
namespace Go.Proofs.YtempmmkdppelaaaGreatDoor
open Go.RowKit Go.Shelf
set_option maxHeartbeats 1000000 in
theorem parse_long (u : ByteArray) (rep : Bool) (hu : 4096 < u.size) (hm : u.size ≤ 281474976710656) (w : World) :
    Calls Tryz.prog 10 #[.string u, .bool rep] w fun e w' => e = .returned (.tuple #[polV (.slice none 0 0) false, .int .i64 4]) ∧ Below w.heap.size w w' := by
  have g1 : decide ((4096 : Int) < (u.size : Int)) = true := by simp; omega
  have HB := Lib.hid (show Below w.heap.size w ((w.alloc (.cells #[.slice none 0 0, .bool false] 25)).alloc (.cells #[.int .i64 4] 26)) from ((Below.refl _ w).alloc (Nat.le_refl _) _).alloc (by simp) _)
  go_enter Tryz.func10, Tryz.ntmps10
  go_wp2
  refine bodyPost_ret (v := .tuple #[polV (.slice none 0 0) false, .int .i64 4]) ?_ rfl ⟨rfl, HB.out⟩
  simp [results, Tryz.results10, go_sem]
  rfl
/-- what Parse answers, whatever the text -/
def parseP (s : ByteArray) : Except Nat (List Dir) := if 4096 < s.size then .error 4 else match parseD s.data.toList with
  | none => .error 3
  | some l => .ok l
/-- a policy that a call has made, or an error -/
def PolRet (w : World) (rep : Bool) (st : Except Nat (List Dir)) (e : Ending) (w' : World) : Prop :=
  (match st with
   | .error c => e = .returned (.tuple #[polV (.slice none 0 0) false, .int .i64 c])
   | .ok l => ∃ v rs, e = .returned (.tuple #[polV v rep, .int .i64 0]) ∧ OwnD w' w.heap.size v rs ∧ l = rs.map RD.dir ∧ rs.length ≤ 64) ∧ Below w.heap.size w w'
theorem parse_is (u : ByteArray) (rep : Bool) (hm : u.size ≤ 281474976710656) (w : World) : Calls Tryz.prog 10 #[.string u, .bool rep] w (PolRet w rep (parseP u)) := by
  unfold parseP PolRet
  by_cases h : 4096 < u.size
  · rw [if_pos h]; exact parse_long u rep h hm w
  · rw [if_neg h]
    refine ((callsIn_wide (n := 6)).1 (parse_box 6 (Nat.le_refl _) u rep (by omega) w)).mono ?_
    rintro e w' ⟨h1, h2⟩
    refine ⟨?_, h2⟩
    cases hp : parseD u.data.toList with
    | none => rw [hp] at h1; exact h1
    | some l => rw [hp] at h1; exact h1
end Go.Proofs.YtempmmkdppelaaaGreatDoor
