import Derived.Test.YtflddokngplgiaaDoorA19M
namespace Go.Proofs.YtflddokngplgiaaDoor
open Go.RowKit Go.Shelf
attribute [local go_sem] Oper.semAt_some
def u16V (x : Nat) : Value := .int .u16 (x : Int)
def pcV (p : List UInt8) : Value := u16V (hexV p)
/-- what 'pieces' answers: nothing, or the pieces, owned -/
def PcRet (w : World) (o : Option (List Nat)) (e : Ending) (w' : World) : Prop :=
  (match o with
  | none => e = .returned (.tuple #[.slice none 0 0, .bool false])
  | some l => ∃ v, e = .returned (.tuple #[v, .bool true]) ∧ w'.ownsRow w.heap.size 26 1 v l.length (l.map u16V)) ∧ Below w.heap.size w w'
theorem wrap_small {n : Nat} (h : n < 65536) : IntKind.u16.wrap (n : Int) = (n : Int) := by rw [IntKind.wrap_u16]; omega
theorem keeps_below {W w1 : World} (hb : Below W.heap.size W w1) : KeepsOthers W w1 := ⟨hb.size, fun k _ h _ => (hb.block k (Array.getElem?_eq_some_iff.1 h).1).trans h⟩
theorem own_to {w w' : World} {B : Nat} {v : Value} {e : TypeId} {size n : Nat} {xs : List Value} (h : w.ownsRow B e size v n xs) (hb : Below w.heap.size w w') : w'.ownsRow B e size v n xs := by
  refine ⟨h.1, ?_⟩
  rcases h.2 with hn | ⟨g, cap, cur, rfl, hB, hg, rest⟩
  · exact .inl hn
  · exact .inr ⟨g, cap, cur, rfl, hB, (hb.block g (Array.getElem?_eq_some_iff.1 hg).1).trans hg, rest⟩
theorem partsAt_count (c : UInt8) (l : List UInt8) : (partsAt c l).length ≤ l.length + 1 := by
  induction l with
  | nil => simp [partsAt]
  | cons b r ih =>
    have hne := partsAt_ne c r
    unfold partsAt
    split
    · simp; omega
    · cases hq : partsAt c r with
      | nil => exact absurd hq hne
      | cons x y => rw [hq] at ih; simp at ih ⊢; omega
set_option maxRecDepth 100000 in
set_option maxHeartbeats 8000000 in
theorem pieces_box (n : Nat) (hn : 6 ≤ n) (u : ByteArray) (hu : u.size ≤ 1000) (hne : u.data.toList ≠ []) (w : World) (hG : Glob w) :
    CallsIn Fence.wide n Tryd.prog 43 #[.string u] w (PcRet w (pcs u.data.toList)) := by
  have h1 : 1 ≤ n := by omega
  obtain ⟨i0, hi, hz0, hz1, hz2⟩ := info_parts info26
  have hemp : u.toList.isEmpty = false := by
    rw [ByteArray.toList_eq]; cases h : u.data.toList with
    | nil => exact absurd h hne
    | cons _ _ => rfl
  have hemp2 : ¬ u.toList = [] := by rw [ByteArray.toList_eq]; exact hne
  have HG := Lib.hid hG
  have HNE := Lib.hid hne
  clear hG hne
  refine callsIn_of_wp_marks Tryd.func43 rfl trivial ?_ rfl
  simp only [Tryd.ntmps43, List.size_toArray, List.length_cons, List.length_nil, Nat.reduceAdd, Nat.reduceSub, Array.replicate_succ, Array.replicate_zero, List.push_toArray, List.append_toArray, List.nil_append, List.cons_append]
  gi_wp2_with (refine ⟨trivial, ?_⟩; gi_at_call 56; refine (splitseq_in (n - 1) _ _).mono ?_; rintro e w' ⟨rfl, rfl⟩)
  obtain ⟨w2, hw2⟩ : ∃ w2, w2 = ((w.alloc (.cells #[.slice none 0 0] 49)).alloc (.cells #[.bool false] 4)).alloc (.cells #[.slice none 0 0] 49) := ⟨_, rfl⟩
  have z2 : w2.heap.size = w.heap.size + 1 + 1 + 1 := by rw [hw2]; simp
  have b0 : Boxed w2 w.heap.size 49 (.slice none 0 0) := by rw [hw2]; exact ((Boxed.new w 49 _).alloc _).alloc _
  have b1 : Boxed w2 (w.heap.size + 1) 4 (.bool false) := by rw [hw2]; have := (Boxed.new (w.alloc (.cells #[.slice none 0 0] 49)) 4 (.bool false)).alloc (.cells #[.slice none 0 0] 49); simpa using this
  have b2 : Boxed w2 (w.heap.size + 1 + 1) 49 (.slice none 0 0) := by rw [hw2]; have := Boxed.new ((w.alloc (.cells #[.slice none 0 0] 49)).alloc (.cells #[.bool false] 4)) 49 (.slice none 0 0); simpa using this
  have hB2 : Below w.heap.size w w2 := by rw [hw2]; exact (((Below.refl _ w).alloc (Nat.le_refl _) _).alloc (by simp) _).alloc (by simp; omega) _
  rw [← hw2]
  clear hw2
  obtain ⟨w3, hw3⟩ : ∃ w3, w3 = ((w2.alloc (.cells #[.string u] 9)).alloc (.cells #[.string ⟨#[58]⟩] 9)).alloc (.cells #[.int .i64 0] 3) := ⟨_, rfl⟩
  have bS : Boxed w3 (w.heap.size + 1 + 1 + 1) 9 (.string u) := by rw [hw3, ← z2]; exact ((Boxed.new w2 9 _).alloc _).alloc _
  have bE : Boxed w3 (w.heap.size + 1 + 1 + 1 + 1) 9 (.string ⟨#[58]⟩) := by rw [hw3, ← z2]; have := (Boxed.new (w2.alloc (.cells #[.string u] 9)) 9 (.string ⟨#[58]⟩)).alloc (.cells #[.int .i64 0] 3); simpa using this
  have bV : Boxed w3 (w.heap.size + 1 + 1 + 1 + 2) 3 (.int .i64 0) := by rw [hw3, ← z2]; have := Boxed.new ((w2.alloc (.cells #[.string u] 9)).alloc (.cells #[.string ⟨#[58]⟩] 9)) 3 (.int .i64 0); simpa using this
  have c0 : Boxed w3 w.heap.size 49 (.slice none 0 0) := by rw [hw3]; exact ((b0.alloc _).alloc _).alloc _
  have c1 : Boxed w3 (w.heap.size + 1) 4 (.bool false) := by rw [hw3]; exact ((b1.alloc _).alloc _).alloc _
  have c2 : Boxed w3 (w.heap.size + 1 + 1) 49 (.slice none 0 0) := by rw [hw3]; exact ((b2.alloc _).alloc _).alloc _
  have hB3 : Below w.heap.size w w3 := by rw [hw3]; exact ((hB2.alloc (by omega) _).alloc (by simp; omega) _).alloc (by simp; omega) _
  have z3 : w3.heap.size = w.heap.size + 6 := by rw [hw3]; simp; omega
  rw [← hw3]
  clear hw3 b0 b1 b2 hB2 z2
  refine wpIn_rangeFunc_box rfl h1 (gf := 85) (lb := #[.pointer (some ⟨w.heap.size + 1 + 1 + 1 + 1, 0, none⟩), .pointer (some ⟨w.heap.size + 1 + 1 + 1, 0, none⟩), .pointer (some ⟨w.heap.size + 1 + 1 + 1 + 2, 0, none⟩)]) rfl trivial (enters_of Tryd.func85 (by kernel_rfl) rfl) (bx := w.heap.size + 1 + 1 + 1) (ks := [w.heap.size + 1 + 1 + 1, w.heap.size + 1 + 1 + 1 + 1, w.heap.size + 1 + 1 + 1 + 2]) (by simp; omega) (by simp)
    (iter_col (n - 1) (by omega) _ _ _ u hu w3 bS bE bV (by omega)) (fun _ => rfl)
    (fun pre W => (∃ v, Boxed W (w.heap.size + 1 + 1) 49 v ∧ W.ownsRow w.heap.size 26 1 v pre.length (pre.map fun p => pcV p.1) ∧ True) ∧ Below w.heap.size w W ∧ Boxed W w.heap.size 49 (.slice none 0 0) ∧ Boxed W (w.heap.size + 1) 4 (.bool false) ∧ TextBox 9 (w.heap.size + 1 + 1 + 1) W ∧ Boxed W (w.heap.size + 1 + 1 + 1 + 1) 9 (.string ⟨#[58]⟩) ∧ Boxed W (w.heap.size + 1 + 1 + 1 + 2) 3 (.int .i64 0) ∧ (∀ p ∈ pre, (hexP p.1).isSome = true))
    (fun c pre W => Below w.heap.size w W ∧ Boxed W w.heap.size 49 (.slice none 0 0) ∧ Boxed W (w.heap.size + 1) 4 (.bool false) ∧ (c = .ret ∧ ∃ p ∈ pre, hexP p.1 = none))
    (OwnBox.and (holdsRow_box w.heap.size _ (w.heap.size + 1 + 1 + 1) (w.heap.size + 1 + 1) 49 26 9 (by decide) (by decide) 1 (fun (pre : List PL) => pre.length) (fun pre => pre.map fun p => pcV p.1) (fun _ _ => True)) (OwnBox.and (ownBox_below (Nat.le_refl _) (by omega) (by omega)) (OwnBox.and (ownBox_boxed (by omega)) (OwnBox.and (ownBox_boxed (by omega)) (OwnBox.and ownBox_text (OwnBox.and (ownBox_boxed (by omega)) (OwnBox.and (ownBox_boxed (by omega)) (ownBox_pure _))))))))
    (fun c => OwnBox.and (ownBox_below (Nat.le_refl _) (by omega) (by omega)) (OwnBox.and (ownBox_boxed (by omega)) (OwnBox.and (ownBox_boxed (by omega)) (ownBox_pure _))))
    ⟨⟨_, c2, World.ownsRow_nil _ _ _ _, trivial⟩, hB3, c0, c1, ⟨u, bS⟩, bE, bV, fun p hp => by cases hp⟩
    (fun x => { tmps := #[.string u, undef, .pointer (some ⟨w.heap.size, 0, none⟩), .pointer (some ⟨w.heap.size + 1, 0, none⟩), .pointer (some ⟨w.heap.size + 1 + 1, 0, none⟩), .string ⟨x.1.toArray⟩, undef, undef, .string u, .bool false, .string u, .func (.func 85) #[] #[.pointer (some ⟨w.heap.size + 1 + 1 + 1 + 1, 0, none⟩), .pointer (some ⟨w.heap.size + 1 + 1 + 1, 0, none⟩), .pointer (some ⟨w.heap.size + 1 + 1 + 1 + 2, 0, none⟩)], .string ⟨x.1.toArray⟩, undef, undef, undef, undef, undef, undef, undef, undef, undef, undef, undef, undef, undef, undef, undef, undef, undef, undef], defers := [] }) ?assign ?body ?done ?stop
  case assign =>
    intro l x W K hK
    unfold encS
    gi_wp2_with fail
    exact hK
  case body =>
    rintro l pre x W ⟨⟨v, hv, hrow, _⟩, hB, h0, h1', ⟨tx, htx⟩, hE, hV, hok⟩ hlt
    have hsx : (⟨x.1.toArray⟩ : ByteArray).size ≤ 140737488355328 := by
      have := x.2
      have e : (⟨x.1.toArray⟩ : ByteArray).size = x.1.length := by simp [ByteArray.size]
      rw [e]; omega
    have HC := Lib.hid (hex_is ⟨x.1.toArray⟩ hsx W (HG.out.to hB))
    have HX := Lib.hid (And.intro hrow (And.intro htx (And.intro hE (And.intro hV hok))))
    have HB := Lib.hid hB
    have HV := Lib.hid hv
    have H0 := Lib.hid h0
    have H1 := Lib.hid h1'
    clear hsx hrow htx hE hV hok hB hv h0 h1'
    gi_wp2_with fail
    refine ⟨trivial, fun _ => by omega, ?_⟩
    refine (callsIn_wide.2 HC.out).mono ?_
    rintro e w4 ⟨rfl, hb⟩
    have HB4 := Lib.hid hb
    clear hb
    rcases hq : partO kHex 16 x.1 with _ | m
    · have HN := Lib.hid (show hexP x.1 = none by unfold hexP; rw [hq]; simp)
      simp only [optE]
      clear hq
      have k0 : Boxed w4 w.heap.size 49 (.slice none 0 0) := (HB4.out.block _ (Array.getElem?_eq_some_iff.1 H0.out).1).trans H0.out
      have k1 : Boxed w4 (w.heap.size + 1) 4 (.bool false) := (HB4.out.block _ (Array.getElem?_eq_some_iff.1 H1.out).1).trans H1.out
      have d0 := k0.cell
      have e0 := k0.frozen
      have d1 := k1.cell
      have e1 := k1.frozen
      have K0 := Lib.hid k0
      have K1 := Lib.hid k1
      clear k0 k1
      gi_wp2_with fail
      have s0 : Boxed ((w4.setCell ⟨w.heap.size, 0, none⟩ (.slice none 0 0)).setCell ⟨w.heap.size + 1, 0, none⟩ (.bool false)) w.heap.size 49 (.slice none 0 0) := (Below.heap_setCell _ _ _ _ (by simp)).trans (K0.out.set _)
      have s1 : Boxed ((w4.setCell ⟨w.heap.size, 0, none⟩ (.slice none 0 0)).setCell ⟨w.heap.size + 1, 0, none⟩ (.bool false)) (w.heap.size + 1) 4 (.bool false) := by
        have : Boxed (w4.setCell ⟨w.heap.size, 0, none⟩ (.slice none 0 0)) (w.heap.size + 1) 4 (.bool false) := (Below.heap_setCell _ _ _ _ (by simp)).trans K1.out
        exact this.set _
      have sb : Below w.heap.size w ((w4.setCell ⟨w.heap.size, 0, none⟩ (.slice none 0 0)).setCell ⟨w.heap.size + 1, 0, none⟩ (.bool false)) := ((HB.out.trans (HB4.out.mono HB.out.size)).setCell (p := ⟨w.heap.size, 0, none⟩) (Nat.le_refl _) _).setCell (p := ⟨w.heap.size + 1, 0, none⟩) (by simp) _
      exact ⟨((keeps_below HB4.out).trans (KeepsOthers.setCell _ _ _)).trans (KeepsOthers.setCell _ _ _), sb, s0, s1, rfl, x, by simp, HN.out⟩
    by_cases h4 : x.1.length ≤ 4
    · have HH : hexP x.1 = some m := by unfold hexP; rw [if_pos h4]; exact hq
      have hm := (hexP_lt HH).1
      have HN := Lib.hid HH
      simp only [optE]
      have hsz : (⟨x.1.toArray⟩ : ByteArray).size = x.1.length := by simp [ByteArray.size]
      have h4i : ((x.1.length : Nat) : Int) ≤ 4 := by omega
      have kw := wrap_small hm
      have hvb : Boxed w4 (w.heap.size + 1 + 1) 49 v := (HB4.out.block _ (Array.getElem?_eq_some_iff.1 HV.out).1).trans HV.out
      have hc := hvb.cell
      have hrow4 : w4.ownsRow w.heap.size 26 1 v pre.length (pre.map fun p => pcV p.1) := own_to HX.out.1 HB4.out
      have HR4 := Lib.hid hrow4
      have HVB := Lib.hid hvb
      have HS4 := Lib.hid (Nat.le_trans HB.out.size HB4.out.size)
      have HPL := Lib.hid (show pre.length < 1100 by
        have h1 := partsAt_count 58 u.data.toList
        rw [len_list] at h1
        omega)
      clear hq HH hrow4 hvb hsz
      have HM1 := Lib.hid (by have := HPL.out; unfold maxLen; omega : pre.length + 1 ≤ maxLen)
      have HM2 := Lib.hid (by have := HPL.out; omega : (pre.length + 1) * 2 ≤ 140737488355328)
      have HSA := Lib.hid (show w.heap.size ≤ (w4.alloc (.cells #[.int .u16 (m : Int)] 26)).heap.size by have := HS4.out; simp; omega)
      gi_wp2_with (gi_at_builtin; refine wpListIn_append_own _ rfl _ _ 49 rfl w.heap.size 26 i0 (.int .u16 0) 1 2 Tryd.underlying49 hi hz0 hz1 hz2 rfl (by decide) _ _ _ rfl (HR4.out.alloc _) ⟨w4.heap.size, 0, none⟩ 1 1 [.int .u16 (m : Int)] rfl rfl (cell_one_new _ _ _) (by simp [Value.oneCell']) HM1.out HM2.out HSA.out ?_; intro v' w5 hown' hgrow _; obtain ⟨g', cap', rfl⟩ := ownsRow_succ hown'; obtain ⟨hv1, hv2, hr2, hk2, hb2⟩ := HVB.out.appended (by decide) HR4.out HS4.out (by omega) hown' hgrow; have hc1 := hv1.cell; have hf1 := hv1.frozen; have HG5 := Lib.hid (And.intro hv2 (And.intro hr2 (And.intro hk2 (And.intro hb2 hgrow)))); clear hv1 hv2 hr2 hk2 hb2 hgrow hown')
      obtain ⟨hv2, hr2, hk2, hb2, hgrow⟩ := HG5.out
      have past : ∀ (k : Nat) (t : TypeId) (c : Value), Boxed W k t c → t ≠ 26 → k ≠ w.heap.size + 1 + 1 → Boxed (w5.setCell ⟨w.heap.size + 1 + 1, 0, none⟩ (.slice (some ⟨g', 0, none⟩) (pre.length + 1) cap')) k t c := by
        intro k t c hk ht hn
        have hk4 : Boxed w4 k t c := (HB4.out.block _ (Array.getElem?_eq_some_iff.1 hk).1).trans hk
        have hk5 : Boxed w5 k t c := (hk4.alloc _).kept hgrow (hk4.not_row ht HR4.out)
        exact (Below.heap_setCell _ _ _ _ hn).trans hk5
      obtain ⟨_, htx, hE, hV, hok⟩ := HX.out
      have htb : Boxed W (w.heap.size + 1 + 1 + 1) 9 (.string tx) := htx
      have p3 := past _ _ _ htb (by decide) (by omega)
      have p4 := past _ _ _ hE (by decide) (by omega)
      have p5 := past _ _ _ hV (by decide) (by omega)
      refine ⟨(keeps_below HB4.out).trans hk2, ?_, ⟨_, hv2, ?_, trivial⟩, (HB.out.trans (HB4.out.mono HB.out.size)).trans hb2, past _ _ _ H0.out (by decide) (by omega), past _ _ _ H1.out (by decide) (by omega), ⟨tx, p3⟩, p4, p5, ?_⟩
      · intro k hk
        simp only [List.mem_cons, List.mem_nil_iff, or_false] at hk
        rcases hk with rfl | rfl | rfl
        · exact Eq.trans p3 htb.symm
        · exact Eq.trans p4 (Eq.symm hE)
        · exact Eq.trans p5 (Eq.symm hV)
      · have e : hexV x.1 = m := by unfold hexV; rw [HN.out]; rfl
        simpa [pcV, u16V, e] using hr2
      · intro p hp
        rcases List.mem_append.1 hp with hp | hp
        · exact hok p hp
        · simp at hp; subst hp; rw [HN.out]; rfl
    · have HN := Lib.hid (show hexP x.1 = none by unfold hexP; rw [if_neg h4])
      simp only [optE]
      have hsz : (⟨x.1.toArray⟩ : ByteArray).size = x.1.length := by simp [ByteArray.size]
      have h4i : (4 : Int) < ((x.1.length : Nat) : Int) := by omega
      clear hq hsz
      have k0 : Boxed w4 w.heap.size 49 (.slice none 0 0) := (HB4.out.block _ (Array.getElem?_eq_some_iff.1 H0.out).1).trans H0.out
      have k1 : Boxed w4 (w.heap.size + 1) 4 (.bool false) := (HB4.out.block _ (Array.getElem?_eq_some_iff.1 H1.out).1).trans H1.out
      have d0 := k0.cell
      have e0 := k0.frozen
      have d1 := k1.cell
      have e1 := k1.frozen
      have K0 := Lib.hid k0
      have K1 := Lib.hid k1
      clear k0 k1
      gi_wp2_with fail
      have s0 : Boxed ((w4.setCell ⟨w.heap.size, 0, none⟩ (.slice none 0 0)).setCell ⟨w.heap.size + 1, 0, none⟩ (.bool false)) w.heap.size 49 (.slice none 0 0) := (Below.heap_setCell _ _ _ _ (by simp)).trans (K0.out.set _)
      have s1 : Boxed ((w4.setCell ⟨w.heap.size, 0, none⟩ (.slice none 0 0)).setCell ⟨w.heap.size + 1, 0, none⟩ (.bool false)) (w.heap.size + 1) 4 (.bool false) := by
        have : Boxed (w4.setCell ⟨w.heap.size, 0, none⟩ (.slice none 0 0)) (w.heap.size + 1) 4 (.bool false) := (Below.heap_setCell _ _ _ _ (by simp)).trans K1.out
        exact this.set _
      have sb : Below w.heap.size w ((w4.setCell ⟨w.heap.size, 0, none⟩ (.slice none 0 0)).setCell ⟨w.heap.size + 1, 0, none⟩ (.bool false)) := ((HB.out.trans (HB4.out.mono HB.out.size)).setCell (p := ⟨w.heap.size, 0, none⟩) (Nat.le_refl _) _).setCell (p := ⟨w.heap.size + 1, 0, none⟩) (by simp) _
      exact ⟨((keeps_below HB4.out).trans (KeepsOthers.setCell _ _ _)).trans (KeepsOthers.setCell _ _ _), sb, s0, s1, rfl, x, by simp, HN.out⟩
  case done =>
    rintro D ys W hD hys ⟨⟨v, hv, hrow, _⟩, hB, h0, h1', _, _, _, hok⟩ hK
    obtain ⟨q, nn, cc, rfl⟩ : ∃ q nn cc, v = .slice q nn cc := by
      rcases hrow.2 with ⟨rfl, _⟩ | ⟨g, cap, cur, rfl, _⟩
      · exact ⟨_, _, _, rfl⟩
      · exact ⟨_, _, _, rfl⟩
    have hc := hv.cell
    have d0 := h0.cell
    have e0 := h0.frozen
    have d1 := h1'.cell
    have e1 := h1'.frozen
    have HX := Lib.hid (And.intro hv (And.intro hrow (And.intro hB (And.intro h0 (And.intro h1' (And.intro hok (And.intro hys hK)))))))
    clear hv hrow hB h0 h1' hok hys hK
    gi_wp2_with fail
    obtain ⟨hv, hrow, hB, h0, h1', hok, hys, hK⟩ := HX.out
    have hD2 : w.heap.size + 6 ≤ D := by rw [← z3]; exact hD
    have s0 : Boxed ((W.setCell ⟨w.heap.size, 0, none⟩ (.slice q nn cc)).setCell ⟨w.heap.size + 1, 0, none⟩ (.bool true)) w.heap.size 49 (.slice q nn cc) := (Below.heap_setCell _ _ _ _ (by simp)).trans (h0.set _)
    have s1 : Boxed ((W.setCell ⟨w.heap.size, 0, none⟩ (.slice q nn cc)).setCell ⟨w.heap.size + 1, 0, none⟩ (.bool true)) (w.heap.size + 1) 4 (.bool true) := by
      have : Boxed (W.setCell ⟨w.heap.size, 0, none⟩ (.slice q nn cc)) (w.heap.size + 1) 4 (.bool false) := (Below.heap_setCell _ _ _ _ (by simp)).trans h1'
      exact this.set _
    have sb : Below w.heap.size w ((W.setCell ⟨w.heap.size, 0, none⟩ (.slice q nn cc)).setCell ⟨w.heap.size + 1, 0, none⟩ (.bool true)) := (hB.setCell (p := ⟨w.heap.size, 0, none⟩) (Nat.le_refl _) _).setCell (p := ⟨w.heap.size + 1, 0, none⟩) (by simp) _
    have sr : ((W.setCell ⟨w.heap.size, 0, none⟩ (.slice q nn cc)).setCell ⟨w.heap.size + 1, 0, none⟩ (.bool true)).ownsRow w.heap.size 26 1 (.slice q nn cc) ys.length (ys.map fun p => pcV p.1) := by
      have r1 := hrow.kept (grownBy_setCell' W w.heap.size (.slice q nn cc)) (.inr (h0.not_row (by decide) hrow).symm)
      have h1s : Boxed (W.setCell ⟨w.heap.size, 0, none⟩ (.slice q nn cc)) (w.heap.size + 1) 4 (.bool false) := (Below.heap_setCell _ _ _ _ (by simp)).trans h1'
      exact r1.kept (grownBy_setCell' _ (w.heap.size + 1) (.bool true)) (.inr (h1s.not_row (by decide) r1).symm)
    have sK : ((W.setCell ⟨w.heap.size, 0, none⟩ (.slice q nn cc)).setCell ⟨w.heap.size + 1, 0, none⟩ (.bool true)).heap[D]? = some (.deferred (some [])) := (Below.heap_setCell _ _ _ _ (by simp; omega)).trans ((Below.heap_setCell _ _ _ _ (by simp; omega)).trans hK)
    clear hv hrow hB h0 h1' hK
    generalize (W.setCell ⟨w.heap.size, 0, none⟩ (.slice q nn cc)).setCell ⟨w.heap.size + 1, 0, none⟩ (.bool true) = X at *
    refine ⟨by simp, .inl ⟨_, _, rfl, run_takeDeferred sK, ?_⟩⟩
    have t0 : Boxed (X.putObj D (.deferred none)) w.heap.size 49 (.slice q nn cc) := (World.putObj_heap_other (by omega)).trans s0
    have t1 : Boxed (X.putObj D (.deferred none)) (w.heap.size + 1) 4 (.bool true) := (World.putObj_heap_other (by omega)).trans s1
    have u0 := t0.cell
    have u1 := t1.cell
    refine ⟨.tuple #[.slice q nn cc, .bool true], ?_, ?_⟩
    · simp [results, Tryd.results43, go_sem, u0, u1]
    · have hp : pcs u.data.toList = some (ys.map fun p => hexV p.1) := by
        unfold pcs
        rw [if_neg HNE.out, ← hys, if_pos]
        · rw [List.map_map]; rfl
        · rw [List.all_eq_true]
          intro p hp
          obtain ⟨y, hy, rfl⟩ := List.mem_map.1 hp
          exact hok y hy
      rw [hp]
      refine ⟨⟨_, rfl, ?_⟩, sb.trans (belowK_b (w := w) (Nat.le_refl _) X D _ _ (by omega) sK rfl rfl)⟩
      have := ownsRow_putObj sr (.deferred none) sK rfl
      rw [List.length_map, List.map_map]
      exact this
  case stop =>
    rintro D c pre W hD hSp ⟨hB, h0, h1', rfl, p, hp, hpn⟩ hK
    have d0 := h0.cell
    have d1 := h1'.cell
    have HX := Lib.hid (And.intro hB (And.intro h0 (And.intro h1' (And.intro hSp (And.intro hp (And.intro hpn hK))))))
    clear hB h0 h1' hSp hp hpn hK
    gi_wp2_with fail
    obtain ⟨hB, h0, h1', hSp, hp, hpn, hK⟩ := HX.out
    have hD2 : w.heap.size + 6 ≤ D := by rw [← z3]; exact hD
    refine ⟨by simp, .inl ⟨_, _, rfl, run_takeDeferred hK, ?_⟩⟩
    have t0 : Boxed (W.putObj D (.deferred none)) w.heap.size 49 (.slice none 0 0) := (World.putObj_heap_other (by omega)).trans h0
    have t1 : Boxed (W.putObj D (.deferred none)) (w.heap.size + 1) 4 (.bool false) := (World.putObj_heap_other (by omega)).trans h1'
    have u0 := t0.cell
    have u1 := t1.cell
    refine ⟨.tuple #[.slice none 0 0, .bool false], ?_, ?_⟩
    · simp [results, Tryd.results43, go_sem, u0, u1]
    · have hpc : pcs u.data.toList = none := by
        unfold pcs
        rw [if_neg HNE.out, if_neg]
        intro hall
        rw [List.all_eq_true] at hall
        have hm : p.1 ∈ partsAt 58 u.data.toList := hSp.subset (List.mem_map_of_mem hp)
        have := hall _ hm
        rw [hpn] at this
        cases this
      rw [hpc]
      exact ⟨rfl, hB.trans (belowK_b (w := w) (Nat.le_refl _) W D _ _ (by omega) hK rfl rfl)⟩
set_option maxHeartbeats 1000000 in
theorem pieces_nil (w : World) : Calls Tryd.prog 43 #[.string ⟨#[]⟩] w (PcRet w (some [])) := by
  go_enter Tryd.func43, Tryd.ntmps43
  go_wp2_with fail
  refine bodyPost_ret (v := .tuple #[.slice none 0 0, .bool true]) (by simp [results, Tryd.results43, go_sem]) rfl ⟨⟨_, rfl, World.ownsRow_nil _ _ _ _⟩, ?_⟩
  exact ((Below.refl _ w).alloc (Nat.le_refl _) _).alloc (by simp) _
theorem pieces_is (u : ByteArray) (hu : u.size ≤ 1000) (w : World) (hG : Glob w) : Calls Tryd.prog 43 #[.string u] w (PcRet w (pcs u.data.toList)) := by
  by_cases hne : u.data.toList = []
  · have : u = ⟨#[]⟩ := ba_ext hne
    subst this
    exact pieces_nil w
  · exact (callsIn_wide (n := 6)).1 (pieces_box 6 (Nat.le_refl _) u hu hne w hG)
end Go.Proofs.YtflddokngplgiaaDoor
