import Derived.Test.YtbclodbneonipaaGreatRGM
import Derived.Test.YtbclodbneonipaaGreatSAM
import Derived.Deep.Quiet
import Derived.Deep.QuietTactic
namespace Go.Proofs.YtbclodbneonipaaGreat
open Go.RowKit N
def cmpP (x y : Pl) : Int := orI (cmpI x.k y.k) (cmpI x.c y.c)
theorem cmpP_lt (x y : Pl) : decide (cmpP x y < 0) = ltP x y := by
  unfold cmpP orI cmpI ltP
  by_cases h1 : x.k < y.k
  · simp [h1]
  · by_cases h2 : y.k < x.k
    · have : ¬ x.k = y.k := by omega
      simp [h1, h2, this]
    · have : x.k = y.k := by omega
      by_cases h3 : x.c < y.c
      · simp [this, h3]
      · by_cases h4 : y.c < x.c <;> simp [this, h3, h4]
def slC (i : Nat) : Nat := if i = 12 then 4 else 5 + i
def VC (b0 b1 : Nat) (x y : Pl) (i : Nat) (v : Value) (w : World) : Prop :=
  match i with
  | 0 => v = .pointer (some ⟨b0, 1, none⟩)
  | 1 => v = .int .i64 x.k
  | 2 => v = .pointer (some ⟨b1, 1, none⟩)
  | 3 => v = .int .i64 y.k
  | 4 => v = .int .i64 (cmpI x.k y.k)
  | 5 => v = .pointer (some ⟨b0, 2, none⟩)
  | 6 => v = .int .u8 x.c
  | 7 => v = .pointer (some ⟨b1, 2, none⟩)
  | 8 => v = .int .u8 y.c
  | 9 => v = .int .i64 (cmpI x.c y.c)
  | 10 => ∃ g, v = .slice (some ⟨g, 0, none⟩) 2 2 ∧ Has w g (.cells #[.int .i64 (cmpI x.k y.k), .int .i64 (cmpI x.c y.c)] 3)
  | _ => v = .int .i64 (cmpP x y)
theorem VC_mono (b0 b1 : Nat) (x y : Pl) : ∀ (i : Nat) (v : Value) (w w' : World), VC b0 b1 x y i v w → Below w.heap.size w w' → VC b0 b1 x y i v w'
  | 10, _, _, _, ⟨g, h1, h2⟩, hb => ⟨g, h1, h2.to hb⟩
  | 0, _, _, _, h, _ => h
  | 1, _, _, _, h, _ => h
  | 2, _, _, _, h, _ => h
  | 3, _, _, _, h, _ => h
  | 4, _, _, _, h, _ => h
  | 5, _, _, _, h, _ => h
  | 6, _, _, _, h, _ => h
  | 7, _, _, _, h, _ => h
  | 8, _, _, _, h, _ => h
  | 9, _, _, _, h, _ => h
  | _ + 11, _, _, _, h, _ => h
set_option maxRecDepth 20000 in
set_option maxHeartbeats 4000000 in
theorem cmp28 (x y : Pl) (w : World) : Calls Tryz.prog 28 #[.agg #[.int .i32 x.r, .int .i64 x.k, .int .u8 x.c], .agg #[.int .i32 y.r, .int .i64 y.k, .int .u8 y.c]] w fun e w' => e = .returned (.int .i64 (cmpP x y)) ∧ Below w.heap.size w w' := by
  go_enter Tryz.func28, Tryz.ntmps28
  go_wp2
  have h0 := (Has.new w (.cells #[.int .i32 x.r, .int .i64 x.k, .int .u8 x.c] 55)).alloc (.cells #[.int .i32 y.r, .int .i64 y.k, .int .u8 y.c] 55)
  have h1 := Has.new (w.alloc (.cells #[.int .i32 x.r, .int .i64 x.k, .int .u8 x.c] 55)) (.cells #[.int .i32 y.r, .int .i64 y.k, .int .u8 y.c] 55)
  rw [World.size_alloc] at h1
  have hb : Below w.heap.size w ((w.alloc (.cells #[.int .i32 x.r, .int .i64 x.k, .int .u8 x.c] 55)).alloc (.cells #[.int .i32 y.r, .int .i64 y.k, .int .u8 y.c] 55)) := (bnew w _).alloc (by simp) _
  refine wp_region_vals (by kernel_rfl) slC (VC w.heap.size (w.heap.size + 1) x y) (fun w' => Below w.heap.size w w' ∧ Has w' w.heap.size (.cells #[.int .i32 x.r, .int .i64 x.k, .int .u8 x.c] 55) ∧ Has w' (w.heap.size + 1) (.cells #[.int .i32 y.r, .int .i64 y.k, .int .u8 y.c] 55)) ?hlt ?hinj ?hback (VC_mono _ _ _ _) (fun _ _ h h' => ⟨h.1.trans (h'.mono h.1.size), h.2.1.to h', h.2.2.to h'⟩) ⟨hb.drew, h0, h1⟩ ?hop ?hdone
  case hlt => intro i hi; simp only [List.size_toArray, List.length_cons, List.length_nil] at hi ⊢; unfold slC; split <;> omega
  case hinj => intro i j hi hj; simp only [List.size_toArray, List.length_cons, List.length_nil] at hi hj; unfold slC; split <;> split <;> omega
  case hback => exact back_of (by decide +kernel)
  case hop =>
    intro i o ho a w' hF hg hd
    obtain ⟨_, g0, g1⟩ := hg
    have c1 : w'.cell? ⟨w.heap.size, 1, none⟩ = some (.int .i64 x.k) := g0.cell 1 rfl
    have c2 : w'.cell? ⟨w.heap.size, 2, none⟩ = some (.int .u8 x.c) := g0.cell 2 rfl
    have d1 : w'.cell? ⟨w.heap.size + 1, 1, none⟩ = some (.int .i64 y.k) := g1.cell 1 rfl
    have d2 : w'.cell? ⟨w.heap.size + 1, 2, none⟩ = some (.int .u8 y.c) := g1.cell 2 rfl
    have hi : i < 13 := (Array.getElem?_eq_some_iff.1 ho).1
    have hcase : i = 0 ∨ i = 1 ∨ i = 2 ∨ i = 3 ∨ i = 4 ∨ i = 5 ∨ i = 6 ∨ i = 7 ∨ i = 8 ∨ i = 9 ∨ i = 10 ∨ i = 11 ∨ i = 12 := by omega
    have h2 : a.eval (.tmp 2) = .pointer (some ⟨w.heap.size, 0, none⟩) := (hF.2.2 2 (fun i _ => by unfold slC; split <;> omega)).trans rfl
    have h3 : a.eval (.tmp 3) = .pointer (some ⟨w.heap.size + 1, 0, none⟩) := (hF.2.2 3 (fun i _ => by unfold slC; split <;> omega)).trans rfl
    have HD0 := Lib.hid hd
    clear hd hF g0 g1
    rcases hcase with rfl | rfl | rfl | rfl | rfl | rfl | rfl | rfl | rfl | rfl | rfl | rfl | rfl
    all_goals
      simp only [List.getElem?_toArray, List.getElem?_cons_zero, List.getElem?_cons_succ, Option.some.injEq] at ho
      subst ho
      have hd := HD0.out
      simp [Region.binds, slC, VC] at hd
      refine ⟨rfl, ?_⟩
      unfold Oper.wp
    · simp [execOp, h2]; simp [go_sem]; exact ⟨_, rfl, rfl, Below.refl _ _⟩
    · simp [execOp, hd]; simp [go_sem, c1]; exact ⟨_, rfl, rfl, Below.refl _ _⟩
    · simp [execOp, h3]; simp [go_sem]; exact ⟨_, rfl, rfl, Below.refl _ _⟩
    · simp [execOp, hd]; simp [go_sem, d1]; exact ⟨_, rfl, rfl, Below.refl _ _⟩
    · simp [execOp, resolve, invoke, hd]; simp [go_sem]; refine (compare30 _ _ _).mono ?_; rintro e w3 ⟨rfl, rfl⟩; exact ⟨_, rfl, rfl, Below.refl _ _⟩
    · simp [execOp, h2]; simp [go_sem]; exact ⟨_, rfl, rfl, Below.refl _ _⟩
    · simp [execOp, hd]; simp [go_sem, c2]; exact ⟨_, rfl, rfl, Below.refl _ _⟩
    · simp [execOp, h3]; simp [go_sem]; exact ⟨_, rfl, rfl, Below.refl _ _⟩
    · simp [execOp, hd]; simp [go_sem, d2]; exact ⟨_, rfl, rfl, Below.refl _ _⟩
    · simp [execOp, resolve, invoke, hd]; simp [go_sem]; refine (compare31 _ _ _).mono ?_; rintro e w3 ⟨rfl, rfl⟩; exact ⟨_, rfl, rfl, Below.refl _ _⟩
    · simp [execOp, hd]; simp [go_sem]; exact ⟨_, rfl, ⟨_, rfl, Has.new _ _⟩, bnew _ _⟩
    · obtain ⟨g, hg1, hg2⟩ := HD0.out ⟨10, .data⟩ (by simp) rfl
      replace hg1 : a.eval (.tmp 15) = .slice (some ⟨g, 0, none⟩) 2 2 := hg1
      simp [execOp, resolve, invoke, hg1]; simp [go_sem]; refine (or29 g _ _ _ hg2).mono ?_; rintro e w3 ⟨rfl, rfl⟩; exact ⟨_, rfl, rfl, Below.refl _ _⟩
    · simp [execOp, hd]; exact ⟨_, rfl, rfl, Below.refl _ _⟩
  case hdone =>
    intro a w' hF hg hv
    have h4 : a.eval (.tmp 4) = .int .i64 (cmpP x y) := hv 12 (by decide)
    simp only [Exit.then]
    rename_i K' hK'
    apply hK'
    go_wp2
    (try simp only [Exit.inBlock, Exit.then])
    refine bodyPost_ret (results_tmp rfl _ _ _) hF.2.1 ?_
    exact ⟨congrArg _ h4, hg.1⟩
end Go.Proofs.YtbclodbneonipaaGreat
namespace Go.Proofs.YtbclodbneonipaaGreat
open Go.RowKit N
/-- a world behind w: what lay in w lies there still -/
structure Later (w : World) where
  v : World
  h : Below w.heap.size w v
instance laterInh (w : World) : Inhabited (Later w) := ⟨⟨w, Below.refl _ w⟩⟩
theorem wp_region_quiet_later {P : Program} {id : Nat} {Q : Exit → Act → World → Prop} {a : Act} {w : World} {l : List Oper} (hm : P.follows .mixedOrders = true) (hB : Region.lexB .any l.toArray = true)
    (h : wpQuiet P l.toArray (fun w' => ∃ p : Later w, w' = p.v) (fun a' => ∀ w', (∃ p : Later w, w' = p.v) → Q .normal a' w') l a) : (Code.region id l.toArray true).wp P Q a w :=
  wp_region_quiet (C := fun w' => ∃ p : Later w, w' = p.v) hm hB ⟨⟨w.drew, (Below.refl _ w).drew⟩, rfl⟩ (by simpa using h)
theorem Calls.later_of {P : Program} {f : FuncId} {args : Array Value} {w : World} {p : Later w} {v : Value}
    (h : Calls P f args p.v fun e w' => e = .returned v ∧ Below p.v.heap.size p.v w') : Calls P f args p.v fun e w'' => e = .returned v ∧ ∃ q : Later w, w'' = q.v :=
  h.mono fun _ _ ⟨he, hb⟩ => ⟨he, ⟨_, p.h.trans (hb.mono p.h.size)⟩, rfl⟩
theorem Later.c {w : World} (p : Later w) {g i : Nat} {v : Value} (h : w.cell? ⟨g, i, none⟩ = some v) (hg : g < w.heap.size) : p.v.cell? ⟨g, i, none⟩ = some v := (p.h.cell (p := ⟨g, i, none⟩) hg).trans h
theorem Row.lt {w : World} {g : Nat} {rest : List Value} {D : List Pl} (h : Row w g rest D) : g < w.heap.size := Has.lt h
abbrev CMP : Value := .func (.func 28) #[] #[]
abbrev agP (x : Pl) : Value := .agg #[.int .i32 x.r, .int .i64 x.k, .int .u8 x.c]
set_option maxRecDepth 20000 in
set_option maxHeartbeats 8000000 in
theorem insertion (g : Nat) (rest : List Value) (len cap : Nat) (pre L post : List Pl) (w : World) (B : Nat) (hB : B ≤ g) (hR : Row w g rest (pre ++ (L ++ post))) (hlen : (pre ++ (L ++ post)).length = len) (hmax : len ≤ 35184372088320) (a b : Nat) (ha : pre.length = a) (hb : a + L.length = b) :
    Calls Tryz.prog 87 #[.slice (some ⟨g, 0, none⟩) len cap, .int .i64 a, .int .i64 b, CMP] w fun e w' => e = .returned (.tuple #[]) ∧ Row w' g rest (pre ++ (SM.S ltP L ++ post)) ∧ Below B w w' := by
  have hlen' : pre.length + L.length + post.length = len := by rw [← hlen]; simp; omega
  have b1 : b ≤ len := by omega
  have b2 : a ≤ b := by omega
  have HI0 : Hid (L.length = b - a ∧ pre.length = a ∧ pre.length + L.length + post.length = len) := Lib.hid ⟨by omega, ha, hlen'⟩
  have HR0 := Lib.hid hR
  have hm0 : Tryz.prog.follows .mixedOrders = true := by kernel_rfl
  clear hlen hlen' hR ha hb
  unfold CMP
  go_enter Tryz.func87, Tryz.ntmps87
  go_wp2
  go_loopw [8] (fun iv wr => ∃ (i : Nat) (La Lb : List Pl), iv = .int .i64 i ∧ a < i ∧ i ≤ b + 1 ∧ Hid (L = La ++ Lb ∧ (La.length + a = i ∨ (L = [] ∧ La = []))) ∧ Row wr g rest (pre ++ (SM.S ltP La ++ (Lb ++ post))) ∧ Below B w wr) (fun i _ => b + 1 - (intOf i).toNat)
  case atStart =>
    obtain ⟨h1, h2, h3⟩ := HI0.out
    cases hL : L with
    | nil =>
      exact ⟨a + 1, [], [], by go_num, by omega, by omega, Lib.hid ⟨rfl, .inr ⟨rfl, rfl⟩⟩, by rw [SM.S_nil]; simpa [hL] using HR0.out, Below.refl _ _⟩
    | cons x l =>
      refine ⟨a + 1, [x], l, by go_num, by omega, by omega, Lib.hid ⟨rfl, .inl (by simp; omega)⟩, ?_, Below.refl _ _⟩
      have e : SM.S ltP [x] = [x] := by
        show SM.mrg ltP [] [x] = [x]
        rw [SM.mrg_nil_l]
      rw [e]
      have := HR0.out
      rw [hL] at this
      simpa using this
  case round =>
    obtain ⟨i, La, Lb, rfl, hai, hib, HI, hRow, hBel⟩ := hrel
    have HRow := Lib.hid hRow
    have HBel := Lib.hid hBel
    clear hRow hBel
    by_cases hlt : i < b
    · have hltz : (i : Int) < (b : Int) := by omega
      obtain ⟨x, Lb, rfl, HJ⟩ : ∃ x l, Lb = x :: l ∧ Hid (La.length + a = i ∧ L = La ++ x :: l ∧ (SM.S ltP La).length + a = i ∧ pre.length = a ∧ pre.length + (SM.S ltP La).length + 1 + l.length + post.length = len) := by
        obtain ⟨h1, h2⟩ := HI.out
        obtain ⟨h3, h4, h5⟩ := HI0.out
        have hS := SM.S_length ltP La
        cases Lb with
        | nil =>
          rw [List.append_nil] at h1
          rcases h2 with h2 | ⟨h2, _⟩
          · rw [← h1] at h2; omega
          · rw [h2] at h3; simp at h3; omega
        | cons x l =>
          have h6 : La.length + a = i := by
            rcases h2 with h2 | ⟨h2, h2'⟩
            · exact h2
            · rw [h2] at h3; simp at h3; omega
          rw [h1] at h5
          simp only [List.length_append, List.length_cons] at h5
          exact ⟨x, l, rfl, Lib.hid ⟨h6, h1, by omega, h4, by omega⟩⟩
      go_wp2
      go_loopw [9] (fun jv wr2 => ∃ (j : Nat) (A Bs : List Pl), jv = .int .i64 j ∧ a ≤ j ∧ j ≤ i ∧ Hid (SM.S ltP La = A ++ Bs ∧ A.length + a = j ∧ (∀ y ∈ Bs, ltP x y = true)) ∧ Row wr2 g rest ((pre ++ A) ++ x :: (Bs ++ (Lb ++ post))) ∧ Below B w wr2) (fun j _ => (intOf j).toNat)
      case atStart => exact ⟨i, SM.S ltP La, [], rfl, by omega, Nat.le_refl _, Lib.hid ⟨by simp, HJ.out.2.2.1, by simp⟩, by simpa using HRow.out, HBel.out⟩
      case round =>
        obtain ⟨j, A, Bs, rfl, haj, hji, HA, hRow2, hBel2⟩ := hrel
        -- what holds when the inner loop ends
        have out : (∀ y ∈ A, ltP x y = false) → Hid (SM.S ltP (La ++ [x]) = A ++ x :: Bs) := fun h => Lib.hid (by
          rw [SM.S_snoc, HA.out.1]; exact SM.mrg_one h HA.out.2.2)
        have OUT := Lib.hid out
        clear out
        by_cases hja : a < j
        · have hjaz : decide ((j : Int) > (a : Int)) = true := decide_eq_true (by omega)
          have hjaz2 : (a : Int) < (j : Int) := by omega
          obtain ⟨A', y, rfl⟩ : ∃ A' y, A = A' ++ [y] := by
            have hne : A ≠ [] := by intro e; have := HA.out.2.1; rw [e] at this; simp at this; omega
            exact ⟨A.dropLast, A.getLast hne, (List.dropLast_concat_getLast hne).symm⟩
          obtain ⟨jp, rfl⟩ : ∃ jp, j = jp + 1 := ⟨j - 1, by omega⟩
          have hPl : (pre ++ A').length = jp := by have h1 := HA.out.2.1; have h2 := HJ.out.2.2.2.1; simp only [List.length_append, List.length_singleton] at h1 ⊢; omega
          have hrw : (pre ++ (A' ++ [y])) ++ x :: (Bs ++ (Lb ++ post)) = (pre ++ A') ++ y :: ([] ++ x :: (Bs ++ (Lb ++ post))) := by simp
          rw [hrw] at hRow2
          have gy := get_mid (pre ++ A') ([] ++ x :: (Bs ++ (Lb ++ post))) y
          have gx := get_two (pre ++ A') [] (Bs ++ (Lb ++ post)) y x
          rw [hPl] at gy
          simp only [List.length_nil, Nat.add_zero] at gx
          rw [hPl] at gx
          have hg0 := hRow2.lt
          have x0 := hRow2.c0 gx
          have x1 := hRow2.c1 gx
          have x2 := hRow2.c2 gx
          have y0 := hRow2.c0 gy
          have y1 := hRow2.c1 gy
          have y2 := hRow2.c2 gy
          have HBel2 := Lib.hid hBel2
          have HRow2 := Lib.hid hRow2
          have HPl := Lib.hid hPl
          have hjl : jp + 1 < len := by omega
          have wj : IntKind.i64.wrap ((jp : Int) + 1 - 1) = (jp : Int) := by rw [show (jp : Int) + 1 - 1 = (jp : Int) by omega]; exact IntWalk.i64_in _ (by omega)
          have wj0 : IntKind.i64.wrap (jp : Int) = (jp : Int) := IntWalk.i64_in _ (by omega)
          have q0 : (a : Int) < (jp : Int) + 1 := by omega
          have q0' : decide ((a : Int) < (jp : Int) + 1) = true := decide_eq_true q0
          have q1 : (jp : Int) + 1 < (len : Int) := by omega
          have q2 : (jp : Int) < (len : Int) := by omega
          have q3 : (0 : Int) ≤ (jp : Int) + 1 := by omega
          have q4 : ((jp : Int) + 1).toNat = jp + 1 := by omega
          clear hrw gx gy hRow2 hBel2 hPl
          have k0 : ∀ p : Later wr, p.v.cell? ⟨g, (jp + 1) * 3, none⟩ = some (.int .i32 x.r) := fun p => p.c x0 hg0
          have k1 : ∀ p : Later wr, p.v.cell? ⟨g, (jp + 1) * 3 + 1, none⟩ = some (.int .i64 x.k) := fun p => p.c x1 hg0
          have k2 : ∀ p : Later wr, p.v.cell? ⟨g, (jp + 1) * 3 + 2, none⟩ = some (.int .u8 x.c) := fun p => p.c x2 hg0
          have l0 : ∀ p : Later wr, p.v.cell? ⟨g, jp * 3, none⟩ = some (.int .i32 y.r) := fun p => p.c y0 hg0
          have l1 : ∀ p : Later wr, p.v.cell? ⟨g, jp * 3 + 1, none⟩ = some (.int .i64 y.k) := fun p => p.c y1 hg0
          have l2 : ∀ p : Later wr, p.v.cell? ⟨g, jp * 3 + 2, none⟩ = some (.int .u8 y.c) := fun p => p.c y2 hg0
          clear x0 x1 x2 y0 y1 y2
          by_cases hc : ltP x y = true
          · have hcz : decide (cmpP x y < 0) = true := by rw [cmpP_lt, hc]
            have HC := Lib.hid hc
            have hcz2 : cmpP x y < 0 := of_decide_eq_true hcz
            clear hc
            go_wp2_with fail
            refine wp_region_quiet_later (by assumption) (by kernel_rfl) ?_
            repeat (quiet_step ((go_at_call 28; exact Calls.later_of (cmp28 x y _))))
            refine wpQuiet_nil ?_
            rintro _ ⟨p, rfl⟩
            have hRp : Row p.v g rest ((pre ++ A') ++ y :: ([] ++ x :: (Bs ++ (Lb ++ post)))) := HRow2.out.to p.h
            have HRp := Lib.hid hRp
            have HBp := Lib.hid (HBel2.out.trans (p.h.mono (by have := HBel2.out.size; exact Nat.le_trans hB (Nat.le_of_lt hg0))))
            clear hRp
            have hgp : g < p.v.heap.size := Nat.lt_of_lt_of_le hg0 p.h.size
            have fx0 := HRp.out.f ((jp + 1) * 3)
            have fx1 := HRp.out.f ((jp + 1) * 3 + 1)
            have fx2 := HRp.out.f ((jp + 1) * 3 + 2)
            have fy0 := HRp.out.f (jp * 3)
            have fy1 := HRp.out.f (jp * 3 + 1)
            have fy2 := HRp.out.f (jp * 3 + 2)
            have x0 := k0 p
            have x1 := k1 p
            have x2 := k2 p
            have y0 := l0 p
            have y1 := l1 p
            have y2 := l2 p
            clear k0 k1 k2 l0 l1 l2
            obtain ⟨wq, hwq⟩ : ∃ wq, wq = p.v := ⟨_, rfl⟩
            rw [← hwq] at HRp HBp hgp fx0 fx1 fx2 fy0 fy1 fy2 x0 x1 x2 y0 y1 y2
            simp only [← hwq]
            clear hwq
            have z0 : ((((wq.setCell ⟨g, (jp + 1) * 3, none⟩ (.int .i32 y.r)).setCell ⟨g, (jp + 1) * 3 + 1, none⟩ (.int .i64 y.k)).setCell ⟨g, (jp + 1) * 3 + 2, none⟩ (.int .u8 y.c)).drew).cell? ⟨g, jp * 3, none⟩ = some (.int .i32 y.r) := (cell_drew _ _).trans <| far3 y0 (by omega) (by omega) (by omega)
            have z1 : (((((wq.setCell ⟨g, (jp + 1) * 3, none⟩ (.int .i32 y.r)).setCell ⟨g, (jp + 1) * 3 + 1, none⟩ (.int .i64 y.k)).setCell ⟨g, (jp + 1) * 3 + 2, none⟩ (.int .u8 y.c)).setCell ⟨g, jp * 3, none⟩ (.int .i32 x.r)).drew).cell? ⟨g, jp * 3 + 1, none⟩ = some (.int .i64 y.k) := (cell_drew _ _).trans <| far1 (far3 y1 (by omega) (by omega) (by omega)) (by omega)
            have z2 : ((((((wq.setCell ⟨g, (jp + 1) * 3, none⟩ (.int .i32 y.r)).setCell ⟨g, (jp + 1) * 3 + 1, none⟩ (.int .i64 y.k)).setCell ⟨g, (jp + 1) * 3 + 2, none⟩ (.int .u8 y.c)).setCell ⟨g, jp * 3, none⟩ (.int .i32 x.r)).setCell ⟨g, jp * 3 + 1, none⟩ (.int .i64 x.k)).drew).cell? ⟨g, jp * 3 + 2, none⟩ = some (.int .u8 y.c) := (cell_drew _ _).trans <| far1 (far1 (far3 y2 (by omega) (by omega) (by omega)) (by omega)) (by omega)
            go_wp2_with fail
            go_region
            all_goals go_wp2
            go_roundw
            case rel =>
              have hsw := (HRp.out.swap (i := jp + 1) (j := jp) (by have := HPl.out; simp only [List.length_append, List.length_cons, List.length_nil] at this ⊢; omega) (by have := HPl.out; simp only [List.length_append, List.length_cons, List.length_nil] at this ⊢; omega) x y).drew
              have e2 : ((((pre ++ A') ++ y :: ([] ++ x :: (Bs ++ (Lb ++ post)))).set (jp + 1) y).set jp x) = (pre ++ A') ++ x :: ((y :: Bs) ++ (Lb ++ post)) := by
                have e3 := two_set (pre ++ A') [] (Bs ++ (Lb ++ post)) y x
                rw [HPl.out, List.length_nil, Nat.add_zero] at e3
                rw [List.set_comm _ _ (by omega), e3]
                rfl
              rw [e2] at hsw
              obtain ⟨h1, h2, h3⟩ := HA.out
              refine ⟨jp, A', y :: Bs, by go_num, by omega, by omega, Lib.hid ⟨by rw [h1]; simp, by simp only [List.length_append, List.length_singleton] at h2; omega, ?_⟩, hsw, (bel_set6 HBp.out hB _ _ _ _ _ _ _ _ _ _ _ _).drew⟩
              intro z hz
              rcases List.mem_cons.1 hz with rfl | hz
              · exact HC.out
              · exact h3 z hz
            case measure => simp [intOf]
          · have hc' : ltP x y = false := by simpa using hc
            have hcz : decide (cmpP x y < 0) = false := by rw [cmpP_lt, hc']
            have HC := Lib.hid hc'
            have hcz2 : ¬ cmpP x y < 0 := of_decide_eq_false hcz
            clear hc hc'
            go_wp2_with fail
            refine wp_region_quiet_later (by assumption) (by kernel_rfl) ?_
            repeat (quiet_step ((go_at_call 28; exact Calls.later_of (cmp28 x y _))))
            refine wpQuiet_nil ?_
            rintro _ ⟨p, rfl⟩
            have HRp := Lib.hid (HRow2.out.to p.h)
            have HBp := Lib.hid (HBel2.out.trans (p.h.mono (by have := HBel2.out.size; exact Nat.le_trans hB (Nat.le_of_lt hg0))))
            clear k0 k1 k2 l0 l1 l2
            go_wp2
            go_roundw
            case rel =>
              obtain ⟨h1, h2, h3⟩ := HA.out
              have hs := SM.S_srt ltP_ord La
              rw [h1, List.append_assoc] at hs
              have hpair := (List.pairwise_append.1 hs).2.2
              have hS := (OUT.out (fun z hz => by
                rcases List.mem_append.1 hz with hz | hz
                · exact ltP_ord.trans _ _ _ (hpair z hz y (by simp)) HC.out
                · simp at hz; rw [hz]; exact HC.out)).out
              refine ⟨i + 1, La ++ [x], Lb, by go_num, by omega, by omega, Lib.hid ⟨by rw [HJ.out.2.1]; simp, .inl (by have := HJ.out.1; simp; omega)⟩, ?_, HBp.out⟩
              rw [hS]
              have := HRp.out
              simpa using this
            case measure => simp [intOf]; omega
        · obtain rfl : j = a := by omega
          clear hja
          have hjaz3 : decide ((j : Int) < (j : Int)) = false := decide_eq_false (by omega)
          have HRow2 := Lib.hid hRow2
          have HBel2 := Lib.hid hBel2
          clear hRow2 hBel2
          go_wp2_with fail
          go_quiet (fail)
          have HRp := Lib.hid (show Row (wr.drewN nq) g rest _ from HRow2.out)
          have HBp := Lib.hid (below_dn HBel2.out nq)
          go_wp2
          go_roundw
          case rel =>
            obtain ⟨h1, h2, h3⟩ := HA.out
            have hA0 : A = [] := List.eq_nil_of_length_eq_zero (by omega)
            have hS := (OUT.out (fun z hz => by rw [hA0] at hz; cases hz)).out
            refine ⟨i + 1, La ++ [x], Lb, by go_num, by omega, by omega, Lib.hid ⟨by rw [HJ.out.2.1]; simp, .inl (by have := HJ.out.1; simp; omega)⟩, ?_, HBp.out⟩
            rw [hS]
            have := HRp.out
            simpa using this
          case measure => simp [intOf]; omega
    · have hltz : ¬ (i : Int) < (b : Int) := by omega
      have HE : Hid (Lb = [] ∧ L = La) := Lib.hid (by
        obtain ⟨h1, h2⟩ := HI.out
        obtain ⟨h3, h4, h5⟩ := HI0.out
        have hl : Lb.length = 0 := by
          rw [h1, List.length_append] at h3
          rcases h2 with h2 | ⟨h2, h2'⟩
          · omega
          · have h6 : (La ++ Lb).length = 0 := by rw [← h1, h2]; rfl
            rw [List.length_append] at h6; omega
        have := List.eq_nil_of_length_eq_zero hl
        exact ⟨this, by rw [h1, this]; simp⟩)
      go_wp2
      go_end0
      refine ⟨rfl, ?_, HBel.out⟩
      have := HRow.out
      rw [HE.out.1, List.nil_append, ← HE.out.2] at this
      exact this
end Go.Proofs.YtbclodbneonipaaGreat

