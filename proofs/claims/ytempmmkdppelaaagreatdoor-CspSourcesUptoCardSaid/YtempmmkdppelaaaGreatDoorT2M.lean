/-
  csp's putName.
-/
import Derived.Test.YtempmmkdppelaaaGreatDoorT1M
namespace Go.Proofs.YtempmmkdppelaaaGreatDoor
open Go.RowKit Go.Shelf
attribute [local go_sem] Oper.semAt_some
/-- the labels of a host's name -/
def nameOK (t : List UInt8) : Bool := (Ks.partsAt 46 (Lib.trimSuffix t [46])).all (madeB (plainB [45, 95]))
/-- what putName makes of a source expression, and what it answers -/
def nameR (x : Src) (s : List UInt8) : Src × Bool :=
  if s = [42] then ({ x with wild := true }, true) else
  ({ x with wild := Lib.hasPrefix s [42, 46], text := lowS ⟨(Lib.trimPrefix s [42, 46]).toArray⟩ }, nameOK (Lib.trimPrefix s [42, 46]))
theorem has_wild {w : World} {b : Nat} {x : Src} (r : Bool) (h : Has w b (.cells x.cs 46)) : Has (w.setCell ⟨b, 3, none⟩ (.bool r)) b (.cells ({ x with wild := r } : Src).cs 46) := by
  have := h.set 3 (.bool r)
  simpa only [Src.cs, List.setIfInBounds_toArray, List.set_cons_zero, List.set_cons_succ] using this
theorem has_text {w : World} {b : Nat} {x : Src} (t : ByteArray) (h : Has w b (.cells x.cs 46)) : Has (w.setCell ⟨b, 1, none⟩ (.string t)) b (.cells ({ x with text := t } : Src).cs 46) := by
  have := h.set 1 (.string t)
  simpa only [Src.cs, List.setIfInBounds_toArray, List.set_cons_zero, List.set_cons_succ] using this
theorem has_path {w : World} {b : Nat} {x : Src} (t : ByteArray) (h : Has w b (.cells x.cs 46)) : Has (w.setCell ⟨b, 7, none⟩ (.string t)) b (.cells ({ x with path := t } : Src).cs 46) := by
  have := h.set 7 (.string t)
  simpa only [Src.cs, List.setIfInBounds_toArray, List.set_cons_zero, List.set_cons_succ] using this
theorem has_scheme {w : World} {b : Nat} {x : Src} (t : ByteArray) (h : Has w b (.cells x.cs 46)) : Has (w.setCell ⟨b, 2, none⟩ (.string t)) b (.cells ({ x with scheme := t } : Src).cs 46) := by
  have := h.set 2 (.string t)
  simpa only [Src.cs, List.setIfInBounds_toArray, List.set_cons_zero, List.set_cons_succ] using this
theorem pref_len (s : List UInt8) (c : List UInt8) : (Lib.trimPrefix s c).length ≤ s.length := by
  unfold Lib.trimPrefix; split
  · rw [List.length_drop]; omega
  · exact Nat.le_refl _
theorem info4 : (Tryz.prog.info? 4).map (fun i => (i.zero, i.size, i.bytes)) = some (some (.bool false), 1, 1) := by kernel_rfl
/-- what holds between the labels -/
structure InvN (bx rc b : Nat) (y : Src) (w : World) (ps : List (List UInt8)) (W : World) : Prop where
  hx : Has W bx (.cells y.cs 46)
  hr : Has W rc (.cells #[.bool false] 4)
  hb : Below bx w W
  tx : Ks.TextBox 9 b W
  be : Boxed W (b + 1) 9 (.string ⟨#[46]⟩)
  bv : Boxed W (b + 2) 3 (.int .i64 0)
  ok : ps.all (madeB (plainB [45, 95])) = true
structure StopN (bx rc : Nat) (y : Src) (w : World) (c : Code) (ps : List (List UInt8)) (W : World) : Prop where
  hx : Has W bx (.cells y.cs 46)
  hr : Has W rc (.cells #[.bool false] 4)
  hb : Below bx w W
  e : c = .ret
  no : ps.all (madeB (plainB [45, 95])) = false
theorem below_keep2 {w A C : World} {row : Option Nat} {B bx bx0 : Nat} (hg : A.grownBy C row) (hr : OnlyBx B bx A C row) (hB : bx0 ≤ B) (hbx : bx0 ≤ bx) (hz : bx0 ≤ A.heap.size) (h : Below bx0 w A) : Below bx0 w C := by
  refine h.grown hg hz fun k e => ?_
  rcases hr k e with ⟨h, _⟩ | ⟨h, _⟩ <;> omega
theorem invN_box {bx rc b : Nat} {y : Src} {w : World} {B : Nat} (hB : bx ≤ B) (h1 : bx < b) (h2 : rc < b) : Ks.OwnBox (β := List Ks.PL) 9 B b (fun pre W => InvN bx rc b y w (pre.map Subtype.val) W) := by
  intro s A C row h hg hr
  exact ⟨has_keep hg hr h.hx (by omega), has_keep hg hr h.hr (by omega), below_keep2 hg hr hB (by omega) (Nat.le_of_lt h.hx.lt) h.hb, text_keep hg hr h.tx, has_keep hg hr h.be (by omega), has_keep hg hr h.bv (by omega), h.ok⟩
theorem stopN_box {bx rc b : Nat} {y : Src} {w : World} {c : Code} {B : Nat} (hB : bx ≤ B) (h1 : bx < b) (h2 : rc < b) : Ks.OwnBox (β := List Ks.PL) 9 B b (fun pre W => StopN bx rc y w c (pre.map Subtype.val) W) := by
  intro s A C row h hg hr
  exact ⟨has_keep hg hr h.hx (by omega), has_keep hg hr h.hr (by omega), below_keep2 hg hr hB (by omega) (Nat.le_of_lt h.hx.lt) h.hb, h.e, h.no⟩
theorem all_prefix {ps qs : List (List UInt8)} {f : List UInt8 → Bool} (h : ps.all f = false) (hp : ps <+: qs) : qs.all f = false := by
  obtain ⟨t, rfl⟩ := hp
  rw [List.all_append, h]; rfl
set_option maxRecDepth 100000 in
set_option maxHeartbeats 2000000 in
theorem putName_box (n : Nat) (hn : 6 ≤ n) (bx : Nat) (x : Src) (s : ByteArray) (hs : s.size ≤ 2097152) (w : World) (h : Has w bx (.cells x.cs 46)) :
    CallsIn Fence.wide n Tryz.prog 93 #[.pointer (some ⟨bx, 0, none⟩), .string s] w (PutRet bx (nameR x s.data.toList) w) := by
  have h1 : 1 ≤ n := by omega
  have hlt := h.lt
  have HA := Lib.hid (show Has (w.alloc (.cells #[.bool false] 4)) bx (.cells x.cs 46) from h.alloc _)
  unfold nameR
  by_cases h0 : s.data.toList = [42]
  · have g0 : (s.toList == [42]) = true := by rw [ByteArray.toList_eq, h0]; rfl
    rw [if_pos h0]
    have z3 := HA.out.cell 3 rfl
    have f3 := HA.out.free 3
    clear h0
    refine callsIn_of_wp_marks Tryz.func93 rfl trivial ?_ rfl
    simp only [Tryz.ntmps93, List.size_toArray, List.length_cons, List.length_nil, Nat.reduceAdd, Nat.reduceSub, Array.replicate_succ, Array.replicate_zero, List.push_toArray, List.append_toArray, List.nil_append, List.cons_append]
    gi_wp2_with fail
    have hZ := (has_wild true h).alloc (.cells #[.bool true] 4)
    have hC := (Has.new (w.setCell ⟨bx, 3, none⟩ (.bool true)) (.cells #[.bool true] 4)).cell 0 rfl
    have hB : Below bx w ((w.setCell ⟨bx, 3, none⟩ (.bool true)).alloc (.cells #[.bool true] 4)) := ((Below.refl w.heap.size w).mono (show bx ≤ _ by omega) |>.setCell (p := ⟨bx, 3, none⟩) (Nat.le_refl _) _).alloc (by simp; omega) _
    simp at hC
    refine ⟨.bool true, ?_, ⟨rfl, hZ, hB⟩⟩
    simp [results, Tryz.results93, go_sem, hC]
  · have g0 : (s.toList == [42]) = false := by rw [ByteArray.toList_eq]; exact beq_eq_false_iff_ne.2 h0
    rw [if_neg h0]
    have HP := Lib.hid (fun W : World => Tryz.strings_CutPrefix s ⟨#[42, 46]⟩ W)
    rw [show (⟨#[42, 46]⟩ : ByteArray).data.toList = [42, 46] from rfl] at HP
    have hml : (⟨(Lib.trimPrefix s.data.toList [42, 46]).toArray⟩ : ByteArray).size ≤ 2097152 := by
      rw [← Ks.len_list]
      refine Nat.le_trans (pref_len _ _) ?_
      rw [Ks.len_list]; exact hs
    generalize Lib.hasPrefix s.data.toList [42, 46] = q at *
    generalize hl : Lib.trimPrefix s.data.toList [42, 46] = l at *
    obtain ⟨t, ht⟩ : ∃ t : ByteArray, t = ⟨l.toArray⟩ := ⟨_, rfl⟩
    have htl : l = t.data.toList := by rw [ht]
    rw [← ht] at HP hml ⊢
    rw [htl]
    clear ht hl htl h0
    have z3 := HA.out.cell 3 rfl
    have f3 := HA.out.free 3
    refine callsIn_of_wp_marks Tryz.func93 rfl trivial ?_ rfl
    simp only [Tryz.ntmps93, List.size_toArray, List.length_cons, List.length_nil, Nat.reduceAdd, Nat.reduceSub, Array.replicate_succ, Array.replicate_zero, List.push_toArray, List.append_toArray, List.nil_append, List.cons_append]
    have HL := Lib.hid (show ∀ W : World, Calls Tryz.prog 35 #[.string t] W fun e w' => e = .returned (.string (lowS t)) ∧ Below W.heap.size W w' from fun W => lower_any t (by unfold maxLen; omega) W)
    have HS := Lib.hid (fun W : World => Tryz.strings_TrimSuffix t ⟨#[46]⟩ W (by omega))
    rw [show (⟨#[46]⟩ : ByteArray).data.toList = [46] from rfl] at HS
    unfold nameOK
    have hml2 : (⟨(Lib.trimSuffix t.data.toList [46]).toArray⟩ : ByteArray).size ≤ 2097152 := by
      rw [← Ks.len_list]
      refine Nat.le_trans (suff_len _ _) ?_
      rw [Ks.len_list]; exact hml
    generalize hl2 : Lib.trimSuffix t.data.toList [46] = l2 at *
    obtain ⟨u, hu⟩ : ∃ u : ByteArray, u = ⟨l2.toArray⟩ := ⟨_, rfl⟩
    have hul : l2 = u.data.toList := by rw [hu]
    rw [← hu] at HS hml2
    rw [hul]
    clear hu hl2 hul
    generalize lowS t = lt at *
    gi_wp2_with (refine ⟨trivial, ?_⟩; gi_at_call 99; refine (callsIn_wide.2 (HP.out _)).mono ?_; rintro e w' ⟨rfl, rfl⟩)
    have HZ := Lib.hid ((has_wild q h).alloc (.cells #[.bool false] 4))
    have HC := Lib.hid (Has.new (w.setCell ⟨bx, 3, none⟩ (.bool q)) (.cells #[.bool false] 4))
    have HB := Lib.hid (show Below bx w ((w.setCell ⟨bx, 3, none⟩ (.bool q)).alloc (.cells #[.bool false] 4)) from ((Below.refl w.heap.size w).mono (show bx ≤ _ by omega) |>.setCell (p := ⟨bx, 3, none⟩) (Nat.le_refl _) _).alloc (by simp; omega) _)
    have hsz : ((w.setCell ⟨bx, 3, none⟩ (.bool q)).alloc (.cells #[.bool false] 4)).heap.size = w.heap.size + 1 := by simp
    rw [show (w.setCell ⟨bx, 3, none⟩ (.bool q)).heap.size = w.heap.size by simp] at HC
    generalize (w.setCell ⟨bx, 3, none⟩ (.bool q)).alloc (.cells #[.bool false] 4) = X at *
    refine ⟨trivial, ?_⟩
    refine (callsIn_wide.2 (HL.out _)).mono ?_
    rintro e w1 ⟨rfl, hb1⟩
    have HZ1 := Lib.hid (HZ.out.to hb1)
    have HC1 := Lib.hid (HC.out.to hb1)
    have HB1 := Lib.hid (HB.out.trans (hb1.mono (show bx ≤ _ by omega)))
    have hs1 : w.heap.size + 1 ≤ w1.heap.size := by have := hb1.size; omega
    clear hb1 HZ HC HB hsz
    clear X
    have z1 := HZ1.out.cell 1 rfl
    have f1 := HZ1.out.free 1
    gi_wp2_with (first | (refine ⟨trivial, ?_⟩; gi_at_call 107; refine (callsIn_wide.2 (HS.out _)).mono ?_; rintro e w' ⟨rfl, rfl⟩) | (refine ⟨trivial, ?_⟩; gi_at_call 31; refine (Ks.splitseq_in 46 (n - 1) _ _).mono ?_; rintro e w' ⟨rfl, rfl⟩))
    obtain ⟨yy, hyy⟩ : ∃ yy, yy = ({ x with wild := q, text := lt } : Src) := ⟨_, rfl⟩
    have HZ2 := Lib.hid (show Has (w1.setCell ⟨bx, 1, none⟩ (.string lt)) bx (.cells yy.cs 46) from hyy ▸ has_text lt HZ1.out)
    have HYY := Lib.hid hyy
    clear hyy
    have HC2 := Lib.hid (HC1.out.far (p := ⟨bx, 1, none⟩) (show w.heap.size ≠ bx by omega) (.string lt))
    have HB2 := Lib.hid (HB1.out.setCell (p := ⟨bx, 1, none⟩) (Nat.le_refl _) (.string lt))
    have hs2 : (w1.setCell ⟨bx, 1, none⟩ (.string lt)).heap.size = w1.heap.size := by simp
    generalize w1.setCell ⟨bx, 1, none⟩ (.string lt) = w2 at *
    generalize w1.heap.size = b at *
    clear HZ1 HC1 HB1 z1 f1 HP HL HS z3 f3 HA
    obtain ⟨w3, hw3⟩ : ∃ w3, w3 = ((w2.alloc (.cells #[.string u] 9)).alloc (.cells #[.string ⟨#[46]⟩] 9)).alloc (.cells #[.int .i64 0] 3) := ⟨_, rfl⟩
    have bS : Boxed w3 b 9 (.string u) := by rw [hw3, ← hs2]; exact ((Boxed.new w2 9 _).alloc _).alloc _
    have bE : Boxed w3 (b + 1) 9 (.string ⟨#[46]⟩) := by rw [hw3, ← hs2]; have := (Boxed.new (w2.alloc (.cells #[.string u] 9)) 9 (.string ⟨#[46]⟩)).alloc (.cells #[.int .i64 0] 3); simpa using this
    have bV : Boxed w3 (b + 2) 3 (.int .i64 0) := by rw [hw3, ← hs2]; have := Boxed.new ((w2.alloc (.cells #[.string u] 9)).alloc (.cells #[.string ⟨#[46]⟩] 9)) 3 (.int .i64 0); simpa using this
    have c0 : Has w3 bx (.cells yy.cs 46) := by rw [hw3]; exact ((HZ2.out.alloc _).alloc _).alloc _
    have c1 : Has w3 w.heap.size (.cells #[.bool false] 4) := by rw [hw3]; exact ((HC2.out.alloc _).alloc _).alloc _
    have hB3 : Below bx w w3 := by rw [hw3]; exact ((HB2.out.alloc (by omega) _).alloc (by simp; omega) _).alloc (by simp; omega) _
    have z3 : w3.heap.size = b + 3 := by rw [hw3]; simp; omega
    rw [← hw3]
    clear hw3 HZ2 HC2 HB2 hs2
    clear w2
    refine Ks.wpIn_rangeFunc_box rfl h1 (gf := 76) (lb := #[.pointer (some ⟨b + 1, 0, none⟩), .pointer (some ⟨b, 0, none⟩), .pointer (some ⟨b + 2, 0, none⟩)]) rfl trivial (enters_of Tryz.func76 (by kernel_rfl) rfl) (bx := b) (ks := [b, b + 1, b + 2]) (by simp; omega) (by simp)
      (Ks.iter_col 46 (n - 1) (by omega) _ _ _ u (by omega) w3 bS bE bV (by omega)) (fun _ => rfl)
      (fun pre W => InvN bx w.heap.size b yy w (pre.map Subtype.val) W) (fun c pre W => StopN bx w.heap.size yy w c (pre.map Subtype.val) W) (invN_box (by omega) (by omega) (by omega)) (fun c => stopN_box (b := b) (by omega) (by omega) (by omega))
      ⟨c0, c1, hB3, ⟨u, bS⟩, bE, bV, rfl⟩
      (fun x => { tmps := #[.pointer (some ⟨bx, 0, none⟩), .string t, undef, undef, .pointer (some ⟨w.heap.size, 0, none⟩), .string ⟨x.1.toArray⟩, .string s, .bool false, undef, undef, undef, .tuple #[.string t, .bool q], .pointer (some ⟨bx, 0, none⟩), .string s, .tuple #[.string t, .bool q], .string t, .bool q, .pointer (some ⟨bx, 0, none⟩), .pointer (some ⟨bx, 3, none⟩), .pointer (some ⟨bx, 0, none⟩), .string t, .string lt, .pointer (some ⟨bx, 0, none⟩), .pointer (some ⟨bx, 1, none⟩), .string t, .string u, .func (.func 76) #[] #[.pointer (some ⟨b + 1, 0, none⟩), .pointer (some ⟨b, 0, none⟩), .pointer (some ⟨b + 2, 0, none⟩)], .string ⟨x.1.toArray⟩, undef, undef, undef, undef], defers := [] }) ?assign ?body ?done ?stop
    case assign =>
      intro l x W K hK
      unfold Ks.encS
      gi_wp2_with fail
      exact hK
    case body =>
      intro l pre x W hI hlt
      obtain ⟨y, hy⟩ : ∃ y : ByteArray, y = ⟨x.1.toArray⟩ := ⟨_, rfl⟩
      have hyl : y.data.toList = x.1 := by rw [hy]
      rw [← hy]
      have hys : y.size ≤ 281474976710656 := by have := x.2; rw [← Ks.len_list, hyl]; omega
      have hall : ((pre ++ [x]).map Subtype.val).all (madeB (plainB [45, 95])) = madeB (plainB [45, 95]) y.data.toList := by
        rw [List.map_append, List.all_append, hI.ok, hyl]; simp
      obtain ⟨r, hr⟩ : ∃ r, madeB (plainB [45, 95]) y.data.toList = r := ⟨_, rfl⟩
      have HM := Lib.hid (fun (bb : Nat) (W : World) (hB : Boxed W bb 9 (.string ⟨#[45, 95]⟩)) => made_plain ⟨#[45, 95]⟩ y bb hys r hr W hB)
      have HMK := Lib.hid (fun (W : World) => mk_plainOr ⟨#[45, 95]⟩ W)
      rw [hr] at hall
      have HALL := Lib.hid hall
      have HI := Lib.hid hI
      have hrl := hI.hr.lt
      clear hr hall hy hyl hI
      cases r with
      | true =>
        gi_wp2_with (first | (refine ⟨trivial, fun _ => by omega, ?_⟩; gi_at_call 103; refine (callsIn_wide.2 (HMK.out _)).mono ?_; rintro e w4 ⟨rfl, rfl⟩) | (refine ⟨trivial, fun _ => by omega, ?_⟩; gi_at_call 102; refine (callsIn_wide.2 (HM.out _ _ (Boxed.new _ _ _))).mono ?_; rintro e w5 ⟨rfl, hb5⟩))
        have hb := bel2 (bnew W _) hb5
        have hI := HI.out
        obtain ⟨tx, htx⟩ := hI.tx
        refine ⟨keeps_below hb, ?_, hI.hx.to hb, hI.hr.to hb, hI.hb.trans (hb.mono (Nat.le_of_lt hI.hx.lt)), ⟨tx, Has.to htx hb⟩, Boxed.to' hI.be hb, Boxed.to' hI.bv hb, HALL.out⟩
        intro k hk
        simp only [List.mem_cons, List.mem_nil_iff, or_false] at hk
        rcases hk with rfl | rfl | rfl
        · exact hb.block _ (Has.lt htx)
        · exact hb.block _ hI.be.lt
        · exact hb.block _ hI.bv.lt
      | false =>
        gi_wp2_with (first | (refine ⟨trivial, fun _ => by omega, ?_⟩; gi_at_call 103; refine (callsIn_wide.2 (HMK.out _)).mono ?_; rintro e w4 ⟨rfl, rfl⟩) | (refine ⟨trivial, fun _ => by omega, ?_⟩; gi_at_call 102; refine (callsIn_wide.2 (HM.out _ _ (Boxed.new _ _ _))).mono ?_; rintro e w5 ⟨rfl, hb5⟩; have HB5 := Lib.hid (bel2 (bnew W _) hb5); have HR5 := Lib.hid (HI.out.hr.to HB5.out); have r0 := HR5.out.cell 0 rfl; have rf := HR5.out.free 0; clear hb5))
        have hI := HI.out
        have hne : w.heap.size ≠ bx := by omega
        refine ⟨(keeps_below HB5.out).trans (KeepsOthers.setCell _ _ _), (hI.hx.to HB5.out).far (p := ⟨w.heap.size, 0, none⟩) (show bx ≠ w.heap.size by omega) _, ?_, (hI.hb.trans (HB5.out.mono (Nat.le_of_lt hI.hx.lt))).setCell (p := ⟨w.heap.size, 0, none⟩) (show bx ≤ w.heap.size by omega) _, rfl, HALL.out⟩
        have := HR5.out.set 0 (.bool false)
        simpa using this
    case done =>
      rintro D ys W hD hys hI hK
      have hC : Has (W.setCell ⟨w.heap.size, 0, none⟩ (.bool true)) w.heap.size (.cells #[.bool true] 4) := hI.hr.set 0 (.bool true)
      have hX := hI.hx.far (p := ⟨w.heap.size, 0, none⟩) (show bx ≠ w.heap.size by omega) (.bool true)
      have hBB := hI.hb.setCell (p := ⟨w.heap.size, 0, none⟩) (show bx ≤ w.heap.size by omega) (.bool true)
      have hKK := Has.far (g := D) hK (p := ⟨w.heap.size, 0, none⟩) (show D ≠ w.heap.size by omega) (.bool true)
      have r0 := hI.hr.cell 0 rfl
      have rf := hI.hr.free 0
      have HOK := Lib.hid (show (Ks.partsAt 46 u.data.toList).all (madeB (plainB [45, 95])) = true by rw [← hys]; exact hI.ok)
      have HX := Lib.hid (And.intro hC (And.intro hX (And.intro hBB hKK)))
      clear hC hX hBB hKK hys hI hK
      gi_wp2_with fail
      obtain ⟨hC, hX, hBB, hKK⟩ := HX.out
      generalize W.setCell ⟨w.heap.size, 0, none⟩ (.bool true) = V at *
      refine ⟨by simp, .inl ⟨_, _, rfl, run_takeDeferred hKK, ?_⟩⟩
      have t0 : Has (V.putObj D (.deferred none)) w.heap.size (.cells #[.bool true] 4) := (World.putObj_heap_other (by omega)).trans hC
      have t1 : Has (V.putObj D (.deferred none)) bx (.cells yy.cs 46) := (World.putObj_heap_other (by omega)).trans hX
      have u0 := t0.cell 0 rfl
      refine ⟨.bool true, ?_, ?_⟩
      · simp [results, Tryz.results93, go_sem, u0]
      · rw [HOK.out, ← HYY.out]
        exact ⟨rfl, t1, hBB.trans (belowK_b (w := w) (show bx ≤ w.heap.size by omega) V D _ _ (by omega) hKK rfl rfl)⟩
    case stop =>
      rintro D cd pre W hD hSp hI hK
      have hr := hI.e
      subst hr
      have HNO := Lib.hid (show (Ks.partsAt 46 u.data.toList).all (madeB (plainB [45, 95])) = false from all_prefix hI.no hSp)
      have HX := Lib.hid (And.intro hI hK)
      clear hSp hI hK
      gi_wp2_with fail
      obtain ⟨hI, hK⟩ := HX.out
      refine ⟨by simp, .inl ⟨_, _, rfl, run_takeDeferred hK, ?_⟩⟩
      have t0 : Has (W.putObj D (.deferred none)) w.heap.size (.cells #[.bool false] 4) := (World.putObj_heap_other (by omega)).trans hI.hr
      have t1 : Has (W.putObj D (.deferred none)) bx (.cells yy.cs 46) := (World.putObj_heap_other (by omega)).trans hI.hx
      have u0 := t0.cell 0 rfl
      refine ⟨.bool false, ?_, ?_⟩
      · simp [results, Tryz.results93, go_sem, u0]
      · rw [HNO.out, ← HYY.out]
        exact ⟨rfl, t1, hI.hb.trans (belowK_b (w := w) (show bx ≤ w.heap.size by omega) W D _ _ (by omega) hK rfl rfl)⟩
end Go.Proofs.YtempmmkdppelaaaGreatDoor
