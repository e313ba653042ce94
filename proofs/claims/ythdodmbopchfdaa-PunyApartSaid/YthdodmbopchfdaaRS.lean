import Derived.Test.YthdodmbopchfdaaRB
import Derived.StillTailTactics
namespace Go.Proofs.Ythdodmbopchfdaa
open Go.RowKit P
attribute [local go_sem ↓] Go.wp_at_zero Go.wp_at_succ
/-- what a step leaves -/
def StepPost (B g : Nat) (u : ByteArray) (a : Nat) (l : List Int) (i n _b : Int) (res : NumR) (w : World) (e : Ending) (w' : World) : Prop :=
  match res with
  | .err c => e = .returned (.int .i64 c) ∧ c ≠ 0 ∧ Below B w w'
  | .ok i' rest => (U.May (n + i' / (l.length + 1)) ∧ e = .returned (.int .i64 0) ∧ (∃ a' : Nat, a < a' ∧ a' ≤ u.size ∧ u.data.toList.drop a' = rest ∧ Rd B g u a' (ins l (i' % (l.length + 1)).toNat (n + i' / (l.length + 1))) (i' % (l.length + 1) + 1) (n + i' / (l.length + 1)) (bias (i' - i) (l.length + 1) (i == 0)) w') ∧ 0 ≤ i' ∧ i' ≤ 2147483647 ∧ Below B w w') ∨ (¬ U.May (n + i' / (l.length + 1)) ∧ e = .returned (.int .i64 9) ∧ Below B w w')
theorem one_may (x : Int) : decide ([x].map U.rep = [x]) = decide (U.May x) := by
  rw [decide_eq_decide, rep_all]
  simp
theorem i64_tdiv {a b q : Int} (h0 : 0 ≤ a) (h : a / b = q) : a.tdiv b = q := by rw [Int.tdiv_eq_ediv_of_nonneg h0, h]
theorem stepPost_ok {B g : Nat} {u : ByteArray} {a a' m : Nat} {l : List Int} {i n b i' q n' b2 : Int} {f : Bool} {rest : List UInt8} {w w' : World} (hq : i' / ((l.length : Int) + 1) = q) (hm : i' % ((l.length : Int) + 1) = (m : Int)) (hn : n + q = n') (hf : (i == 0) = f) (hb2 : bias (i' - i) ((l.length : Int) + 1) f = b2) (hmay : U.May n') (ha1 : a < a') (ha2 : a' ≤ u.size) (hrest : u.data.toList.drop a' = rest) (hR : Rd B g u a' (ins l m n') (m + 1) n' b2 w') (h0 : 0 ≤ i') (h1 : i' ≤ 2147483647) (hb : Below B w w') : StepPost B g u a l i n b (.ok i' rest) w (.returned (.int .i64 0)) w' := by
  refine .inl ⟨by rw [hq, hn]; exact hmay, rfl, ⟨a', ha1, ha2, hrest, ?_⟩, h0, h1, hb⟩
  rw [hq, hm, hn, hf, hb2, Int.toNat_natCast]
  exact hR
theorem insert_form (B : Nat) (v : Value) (l : List Int) (i : Nat) (x : Int) (vb : Nat) (w : World) (hO : Own w B v l) (hV : Has w vb (.cells #[.int .i32 x] 21)) (hne : some vb ≠ v.ownBlock) (hBw : B ≤ w.heap.size) (hl : l.length ≤ 1048576) (hi : i ≤ l.length) :
    Calls Try.prog 34 #[v, .int .i64 i, .slice (some ⟨vb, 0, none⟩) 1 1] w fun e w' => ∃ p c, e = .returned (.slice p (l.length + 1) c) ∧ Own w' B (.slice p (l.length + 1) c) (ins l i x) ∧ w.grownBy w' v.ownBlock :=
  (insert_is B v l i x vb w hO hV hne hBw hl hi).mono fun e w' ⟨v', he, ho, hg⟩ => by
    obtain ⟨p, c, hv, _⟩ := ho.form
    rw [ins_len] at hv
    subst hv
    exact ⟨p, c, he, ho, hg⟩
set_option maxRecDepth 100000 in
set_option maxHeartbeats 8000000 in
theorem step_is (B g : Nat) (u : ByteArray) (a : Nat) (l : List Int) (i n b : Int) (res : NumR) (hres : num (u.data.toList.drop a) 36 1 i b = res) (hu : u.size ≤ 4096) (ha : a ≤ u.size) (hi0 : 0 ≤ i) (hi1 : i ≤ 8192) (hn0 : 0 ≤ n) (hn1 : n ≤ 1114111) (hb0 : 0 ≤ b) (hb1 : b ≤ 10000000000) (hl : l.length ≤ 4096) (w : World) (hR : Rd B g u a l i n b w) :
    Calls Try.prog 21 #[.pointer (some ⟨g, 0, none⟩)] w (StepPost B g u a l i n b res w) := by
  have HR := Lib.hid hR
  have HRes := Lib.hid hres
  have c3 : w.cell? ⟨g, 3, none⟩ = some (.int .i64 i) := by obtain ⟨_, v, hG, _⟩ := hR; exact hG.cell 3 rfl
  have hBw : B ≤ w.heap.size := by obtain ⟨hB, v, hG, _⟩ := hR; have := hG.lt; omega
  clear hR hres
  go_enter Try.func21, Try.ntmps21
  go_wp2_with fail
  refine (rnum_is B g u a l i n b res HRes.out hu ha hi0 (by omega) hb0 hb1 _ HR.out).mono ?_
  intro e w3 hnp
  clear c3
  cases res with
  | err c =>
    obtain ⟨rfl, hc, hb3⟩ := hnp
    have hc2 : (c != 0) = true := by simpa using hc
    go_wp2
    go_ret
    exact ⟨rfl, hc, hb3⟩
  | ok i' rest =>
    obtain ⟨rfl, ⟨a', ha1, ha2, hrest, hR3⟩, h0, h1, hb3⟩ := hnp
    have HRest := Lib.hid hrest
    obtain ⟨hBg, v, hG, hO⟩ := hR3
    obtain ⟨pv, cv, hv, _⟩ := hO.form
    subst hv
    have hL : (0 : Int) < (l.length : Int) + 1 := by omega
    obtain ⟨q, hq⟩ : ∃ q, i' / ((l.length : Int) + 1) = q := ⟨_, rfl⟩
    have hq0 : 0 ≤ q := by rw [← hq]; exact Int.ediv_nonneg h0 (by omega)
    have hq1 : q ≤ 2147483647 := by rw [← hq]; exact Int.le_trans (Int.ediv_le_self _ h0) h1
    have hm0 := Int.emod_nonneg i' (show ((l.length : Int) + 1) ≠ 0 by omega)
    have hm1 := Int.emod_lt_of_pos i' hL
    obtain ⟨m, hm⟩ : ∃ m : Nat, i' % ((l.length : Int) + 1) = (m : Int) := ⟨(i' % ((l.length : Int) + 1)).toNat, by omega⟩
    rw [hm] at hm1
    have hml : m ≤ l.length := by omega
    obtain ⟨f, hf⟩ : ∃ f, (i == 0) = f := ⟨_, rfl⟩
    have hib : 0 ≤ i' - i := by
      obtain ⟨vs, δ, _, g2, g3, g4, _⟩ := num_par _ _ _ _ _ _ _ HRes.out
      have := digs_par g2 (by have := g3 []; rwa [List.append_nil] at this)
      omega
    obtain ⟨b2, hb2⟩ : ∃ b2, bias (i' - i) ((l.length : Int) + 1) f = b2 := ⟨_, rfl⟩
    have HB2 := Lib.hid hb2
    have HQ := Lib.hid hq
    have HM := Lib.hid hm
    have HF := Lib.hid hf
    obtain ⟨n', hn'⟩ : ∃ n', n + q = n' := ⟨_, rfl⟩
    have hn2 : 0 ≤ n' ∧ n' ≤ 2148597758 := by omega
    have HN := Lib.hid hn'
    have c2 : w3.cell? ⟨g, 2, none⟩ = some (.slice pv l.length cv) := hG.cell 2 rfl
    have c3 : w3.cell? ⟨g, 3, none⟩ = some (.int .i64 i') := hG.cell 3 rfl
    have c5 : w3.cell? ⟨g, 5, none⟩ = some (.int .i64 b) := hG.cell 5 rfl
    have fz5 := hG.free 5
    have hG5 := hG.set 5 (.int .i64 b2)
    have HO5 := Lib.hid (own_set hO hG (by decide) 5 (.int .i64 b2))
    have HB5 := Lib.hid (hb3.setCell (p := ⟨g, 5, none⟩) hBg (.int .i64 b2))
    obtain ⟨X5, hX5⟩ : ∃ X, w3.setCell ⟨g, 5, none⟩ (.int .i64 b2) = X := ⟨_, rfl⟩
    rw [hX5] at hG5 HO5 HB5
    have HX5 := Lib.hid hX5
    have HG5 := Lib.hid hG5
    have hf' := HF.out
    clear hX5 hG5 hG hO hb2 hq hm hf hn' hb3 hrest
    go_wp2_with (go_at_call 33; refine (bias_is (i' - i) ((l.length : Int) + 1) b2 f HB2.out (by omega) (by omega) (by omega) (by omega) _).mono ?_; rintro e w' ⟨rfl, rfl⟩)
    rw [HX5.out]
    clear c2 c3 c5 fz5
    have d4 : X5.cell? ⟨g, 4, none⟩ = some (.int .i64 n) := HG5.out.cell 4 rfl
    have d3 : X5.cell? ⟨g, 3, none⟩ = some (.int .i64 i') := HG5.out.cell 3 rfl
    have fz4 := HG5.out.free 4
    have k1 := i64_tdiv h0 HQ.out
    have k2 : IntKind.i64.wrap q = q := IntWalk.i64_in _ (by omega)
    have k3 : IntKind.i64.wrap (n + q) = n' := by rw [HN.out]; exact IntWalk.i64_in _ (by omega)
    have k4 : ¬ ((l.length : Int) + 1 = 0) := by omega
    have k5 : (((l.length : Int) + 1) == 0) = false := by rw [beq_eq_false_iff_ne]; omega
    refine wp_region_still_tail 13 (by kernel_rfl) (by kernel_rfl) ?_
    simp only [List.take_succ_cons, List.take_zero, List.drop_succ_cons, List.drop_zero]
    repeat still_step
    refine wpStill_nil ?_
    change wpList _ _ _ _ _ X5.drew
    clear k1 k2 k3 k4 k5
    have hG54 := HG5.out.set 4 (.int .i64 n')
    have HO54 := Lib.hid (own_set HO5.out HG5.out (by decide) 4 (.int .i64 n'))
    have HB54 := Lib.hid (HB5.out.setCell (p := ⟨g, 4, none⟩) hBg (.int .i64 n'))
    have hG543 := hG54.set 3 (.int .i64 m)
    have HO543 := Lib.hid (own_set HO54.out hG54 (by decide) 3 (.int .i64 m))
    have HB543 := Lib.hid (HB54.out.setCell (p := ⟨g, 3, none⟩) hBg (.int .i64 m))
    have HG543 := Lib.hid hG543
    have e3 : (X5.setCell ⟨g, 4, none⟩ (.int .i64 n')).cell? ⟨g, 3, none⟩ = some (.int .i64 i') := hG54.cell 3 rfl
    have fz3 := hG54.free 3
    have g4 : ((X5.setCell ⟨g, 4, none⟩ (.int .i64 n')).setCell ⟨g, 3, none⟩ (.int .i64 m)).cell? ⟨g, 4, none⟩ = some (.int .i64 n') := hG543.cell 4 rfl
    have hm' := HM.out
    clear hG54 hG543
    obtain ⟨X6, hX6⟩ : ∃ X, (X5.setCell ⟨g, 4, none⟩ (.int .i64 n')).setCell ⟨g, 3, none⟩ (.int .i64 m) = X := ⟨_, rfl⟩
    rw [hX6] at HO543 HB543 HG543 g4
    have HX6 := Lib.hid hX6
    clear hX6
    have hszX := HB543.out.size
    have hgX := HG543.out.lt
    by_cases hmost : 2147483647 < n'
    · have HNM := Lib.hid (show ¬ U.May n' by unfold U.May; omega)
      have g4' : ((X5.setCell ⟨g, 4, none⟩ (.int .i64 n')).setCell ⟨g, 3, none⟩ (.int .i64 m)).cell? ⟨g, 4, none⟩ = some (.int .i64 n') := by rw [HX6.out]; exact g4
      go_wp2
      go_ret
      refine .inr ⟨by rw [HQ.out, HN.out]; exact HNM.out, rfl, ?_⟩
      have := HB543.out
      rw [← HX6.out] at this
      exact this.drew
    · have g4' : ((X5.setCell ⟨g, 4, none⟩ (.int .i64 n')).setCell ⟨g, 3, none⟩ (.int .i64 m)).cell? ⟨g, 4, none⟩ = some (.int .i64 n') := by rw [HX6.out]; exact g4
      obtain ⟨ok, hok⟩ : ∃ ok, decide (U.May n') = ok := ⟨_, rfl⟩
      have HOK := Lib.hid hok
      have HNew : Hid ((((X5.setCell ⟨g, 4, none⟩ (.int .i64 n')).setCell ⟨g, 3, none⟩ (.int .i64 m)).alloc (.cells #[.int .i32 n'] 21)).drew.heap[X5.heap.size]? = some (.cells ([n'].map (Value.int .i32)).toArray 21 (0, 0))) := Lib.hid (by
        have := Has.new ((X5.setCell ⟨g, 4, none⟩ (.int .i64 n')).setCell ⟨g, 3, none⟩ (.int .i64 m)) (.cells #[.int .i32 n'] 21)
        have e : ((X5.setCell ⟨g, 4, none⟩ (.int .i64 n')).setCell ⟨g, 3, none⟩ (.int .i64 m)).heap.size = X5.heap.size := by simp
        rw [e] at this
        exact this)
      clear hok
      go_wp2_with fail
      clear g4'
      refine (mayBe_is _ [n'] ok (by rw [one_may]; exact HOK.out) (by simp) _ (runes_lit (l := [n']) HNew.out 1)).mono ?_
      rintro e w7 ⟨rfl, hb7⟩
      rw [HX6.out] at hb7
      have hbA : Below B w (X6.alloc (.cells #[.int .i32 n'] 21)).drew := (HB543.out.alloc (by omega) _).drew
      have hszA := hbA.size
      have HB7 := Lib.hid (hbA.trans (hb7.mono (by omega)))
      have HG7 : Hid (Has w7 g (.cells (RC u a' (.slice pv l.length cv) m n' b2) 46)) := Lib.hid (Has.to (w := (X6.alloc (.cells #[.int .i32 n'] 21)).drew) (HG543.out.alloc (.cells #[.int .i32 n'] 21)) hb7)
      have HO7 : Hid (Own w7 B (.slice pv l.length cv) l) := Lib.hid (Own.to (w := (X6.alloc (.cells #[.int .i32 n'] 21)).drew) (HO543.out.alloc (.cells #[.int .i32 n'] 21)).drew hb7)
      have hsz7 := HB7.out.size
      have hg7 := HG7.out.lt
      clear hb7 hbA hszA
      cases ok with
      | false =>
        have HNM := Lib.hid (show ¬ U.May n' by have := HOK.out; simpa using this)
        go_wp2
        go_ret
        exact .inr ⟨by rw [HQ.out, HN.out]; exact HNM.out, rfl, HB7.out⟩
      | true =>
        have HNM := Lib.hid (show U.May n' by have := HOK.out; simpa using this)
        have c2 : w7.cell? ⟨g, 2, none⟩ = some (.slice pv l.length cv) := HG7.out.cell 2 rfl
        have c3 : w7.cell? ⟨g, 3, none⟩ = some (.int .i64 m) := HG7.out.cell 3 rfl
        have c4 : w7.cell? ⟨g, 4, none⟩ = some (.int .i64 n') := HG7.out.cell 4 rfl
        have fz2 := HG7.out.free 2
        have HOi : Hid (Own (w7.alloc (.cells #[.int .i32 n'] 21)).drew B (.slice pv l.length cv) l) := Lib.hid (HO7.out.alloc (.cells #[.int .i32 n'] 21)).drew
        have HVi : Hid (Has (w7.alloc (.cells #[.int .i32 n'] 21)).drew w7.heap.size (.cells #[.int .i32 n'] 21)) := Lib.hid (Has.new w7 (.cells #[.int .i32 n'] 21))
        have HNi : Hid (some w7.heap.size ≠ (Value.slice pv l.length cv).ownBlock) := Lib.hid (fun e => by have := (HO7.out.lt _ e.symm).2; omega)
        have HGi : Hid (Has (w7.alloc (.cells #[.int .i32 n'] 21)).drew g (.cells (RC u a' (.slice pv l.length cv) m n' b2) 46)) := Lib.hid (HG7.out.alloc (.cells #[.int .i32 n'] 21))
        have HNe := Lib.hid (own_ne HO7.out HG7.out (by decide))
        have j1 : IntKind.i64.wrap (m : Int) = (m : Int) := IntWalk.i64_in _ (by omega)
        have j2 : IntKind.i32.wrap n' = n' := IntWalk.i32_in _ (by omega)
        have s7 : (w7.alloc (.cells #[.int .i32 n'] 21)).drew.heap.size = w7.heap.size + 1 := by simp
        go_wp2_with fail
        go_region_law ((go_simp; refine (insert_form B _ l m n' w7.heap.size _ HOi.out HVi.out HNi.out (by rw [s7]; omega) (by omega) hml).mono ?_; rintro e w8 ⟨p8, q8, rfl, ho8, hg8⟩; have HG8 : Hid (Has w8 g (.cells (RC u a' (.slice pv l.length cv) m n' b2) 46)) := Lib.hid (has_past (v := .slice pv l.length cv) HGi.out hg8 HNe.out); have k2 : w8.cell? ⟨g, 2, none⟩ = some (.slice pv l.length cv) := HG8.out.cell 2 rfl; have kz2 := HG8.out.free 2))
        all_goals
          have hG82 := HG8.out.set 2 (.slice p8 (l.length + 1) q8)
          have hO82 := own_set ho8 HG8.out (by decide) 2 (.slice p8 (l.length + 1) q8)
          have hB8 : Below B w w8 := (HB7.out.alloc (by omega) (.cells #[.int .i32 n'] 21)).drew.grown hg8 (by rw [s7]; omega) (fun k hk => (HO7.out.lt k hk).1)
          have HG83 := Lib.hid (hG82.set 3 (.int .i64 ((m : Int) + 1)))
          have HO83 := Lib.hid (own_set hO82 hG82 (by decide) 3 (.int .i64 ((m : Int) + 1)))
          have HB83 := Lib.hid ((hB8.setCell (p := ⟨g, 2, none⟩) hBg (.slice p8 (l.length + 1) q8)).setCell (p := ⟨g, 3, none⟩) hBg (.int .i64 ((m : Int) + 1)))
          have c32 : (w8.setCell ⟨g, 2, none⟩ (.slice p8 (l.length + 1) q8)).cell? ⟨g, 3, none⟩ = some (.int .i64 m) := hG82.cell 3 rfl
          have fz32 := hG82.free 3
          clear j1 j2 hG82 hO82 hB8 hg8 ho8
          go_wp2
          go_ret
          exact stepPost_ok HQ.out HM.out HN.out HF.out HB2.out HNM.out ha1 ha2 HRest.out ⟨hBg, _, HG83.out, HO83.out⟩ h0 h1 HB83.out
end Go.Proofs.Ythdodmbopchfdaa
