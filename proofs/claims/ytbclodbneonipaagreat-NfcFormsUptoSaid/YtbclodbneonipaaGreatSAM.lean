import Derived.Test.YtbclodbneonipaaGreatNMM
import Derived.BigRegion
import Derived.RegionTactic
import Derived.Test.YtbclodbneonipaaGreatSMM
import Derived.Deep.Quiet
namespace Go.Proofs.YtbclodbneonipaaGreat
open Go.RowKit N
def encPl (x : Pl) : List Value := [.int .i32 x.r, .int .i64 x.k, .int .u8 x.c]
def encs (D : List Pl) : List Value := D.flatMap encPl
theorem encs_nil : encs [] = [] := rfl
theorem encs_cons (x : Pl) (D : List Pl) : encs (x :: D) = encPl x ++ encs D := by unfold encs; rw [List.flatMap_cons]
theorem encs_app (A B : List Pl) : encs (A ++ B) = encs A ++ encs B := List.flatMap_append
theorem encs_len : ∀ D : List Pl, (encs D).length = D.length * 3
  | [] => rfl
  | x :: D => by rw [encs_cons, List.length_append, encs_len D]; simp [encPl]; omega
theorem encs_at : ∀ (D : List Pl) (rest : List Value) (i j : Nat) (x : Pl), D[i]? = some x → j < 3 → (encs D ++ rest)[i * 3 + j]? = (encPl x)[j]?
  | [], _, i, _, _, h, _ => by simp at h
  | y :: D, rest, 0, j, x, h, hj => by
    simp at h; subst h
    rw [encs_cons, List.append_assoc, Nat.zero_mul, Nat.zero_add, List.getElem?_append_left (by simp [encPl]; omega)]
  | y :: D, rest, i + 1, j, x, h, hj => by
    rw [encs_cons, List.append_assoc, List.getElem?_append_right (by simp [encPl]; omega)]
    have := encs_at D rest i j x (by simpa using h) hj
    rw [← this]
    congr 1
    simp [encPl]; omega
theorem encs_set : ∀ (D : List Pl) (rest : List Value) (i : Nat) (x : Pl), i < D.length → (((encs D ++ rest).set (i * 3) (.int .i32 x.r)).set (i * 3 + 1) (.int .i64 x.k)).set (i * 3 + 2) (.int .u8 x.c) = encs (D.set i x) ++ rest
  | [], _, i, _, h => by simp at h
  | y :: D, rest, 0, x, _ => by simp [encs_cons, encPl]
  | y :: D, rest, i + 1, x, h => by
    have := encs_set D rest i x (by simpa using h)
    rw [List.set_cons_succ, encs_cons, encs_cons]
    have e : (i + 1) * 3 = i * 3 + 3 := by omega
    rw [e]
    simp only [encPl, List.cons_append, List.nil_append, List.set_cons_succ]
    rw [← this]
def Row (w : World) (g : Nat) (rest : List Value) (D : List Pl) : Prop := Has w g (.cells (encs D ++ rest).toArray 55)
section
variable {w w' : World} {g : Nat} {rest : List Value} {D : List Pl}
theorem Row.c0 (h : Row w g rest D) {i : Nat} {x : Pl} (hx : D[i]? = some x) : w.cell? ⟨g, i * 3, none⟩ = some (.int .i32 x.r) := Has.cell h _ (by rw [List.getElem?_toArray]; exact encs_at D rest i 0 x hx (by omega))
theorem Row.c1 (h : Row w g rest D) {i : Nat} {x : Pl} (hx : D[i]? = some x) : w.cell? ⟨g, i * 3 + 1, none⟩ = some (.int .i64 x.k) := Has.cell h _ (by rw [List.getElem?_toArray]; exact encs_at D rest i 1 x hx (by omega))
theorem Row.c2 (h : Row w g rest D) {i : Nat} {x : Pl} (hx : D[i]? = some x) : w.cell? ⟨g, i * 3 + 2, none⟩ = some (.int .u8 x.c) := Has.cell h _ (by rw [List.getElem?_toArray]; exact encs_at D rest i 2 x hx (by omega))
theorem Row.f (h : Row w g rest D) (i : Nat) : w.frozen? ⟨g, i, none⟩ = false := Has.free h i
theorem Row.store (h : Row w g rest D) {i : Nat} (hi : i < D.length) (x : Pl) : Row (((w.setCell ⟨g, i * 3, none⟩ (.int .i32 x.r)).setCell ⟨g, i * 3 + 1, none⟩ (.int .i64 x.k)).setCell ⟨g, i * 3 + 2, none⟩ (.int .u8 x.c)) g rest (D.set i x) := by
  have := ((Has.set h (i * 3) (.int .i32 x.r)).set (i * 3 + 1) (.int .i64 x.k)).set (i * 3 + 2) (.int .u8 x.c)
  unfold Row
  rw [← encs_set D rest i x hi]
  simpa using this
theorem Row.swap (h : Row w g rest D) {i j : Nat} (hi : i < D.length) (hj : j < D.length) (x y : Pl) : Row ((((((w.setCell ⟨g, i * 3, none⟩ (.int .i32 y.r)).setCell ⟨g, i * 3 + 1, none⟩ (.int .i64 y.k)).setCell ⟨g, i * 3 + 2, none⟩ (.int .u8 y.c)).setCell ⟨g, j * 3, none⟩ (.int .i32 x.r)).setCell ⟨g, j * 3 + 1, none⟩ (.int .i64 x.k)).setCell ⟨g, j * 3 + 2, none⟩ (.int .u8 x.c)) g rest ((D.set i y).set j x) :=
  (h.store hi y).store (by simpa using hj) x
theorem Row.drew (h : Row w g rest D) : Row w.drew g rest D := h
theorem Row.to (h : Row w g rest D) (hb : Below w.heap.size w w') : Row w' g rest D := Has.to h hb
end
theorem bel_set6 {B g : Nat} {w w' : World} (h : Below B w w') (hg : B ≤ g) (i0 i1 i2 i3 i4 i5 : Nat) (v0 v1 v2 v3 v4 v5 : Value) : Below B w ((((((w'.setCell ⟨g, i0, none⟩ v0).setCell ⟨g, i1, none⟩ v1).setCell ⟨g, i2, none⟩ v2).setCell ⟨g, i3, none⟩ v3).setCell ⟨g, i4, none⟩ v4).setCell ⟨g, i5, none⟩ v5) :=
  (((((h.setCell (p := ⟨g, i0, none⟩) hg _).setCell (p := ⟨g, i1, none⟩) hg _).setCell (p := ⟨g, i2, none⟩) hg _).setCell (p := ⟨g, i3, none⟩) hg _).setCell (p := ⟨g, i4, none⟩) hg _).setCell (p := ⟨g, i5, none⟩) hg _
theorem set_mid {α : Type} (P Q : List α) (x y : α) : (P ++ x :: Q).set P.length y = P ++ y :: Q := by
  rw [List.set_append_right _ _ (Nat.le_refl _)]; simp
theorem get_mid {α : Type} (P Q : List α) (x : α) : (P ++ x :: Q)[P.length]? = some x := by simp
theorem two_set (P M Q : List Pl) (x y : Pl) : ((P ++ x :: (M ++ y :: Q)).set P.length y).set (P.length + 1 + M.length) x = P ++ y :: (M ++ x :: Q) := by
  rw [set_mid]
  have := set_mid (P ++ y :: M) Q y x
  rw [List.append_assoc, List.append_assoc] at this
  simp only [List.cons_append, List.length_append, List.length_cons] at this
  rw [show P.length + 1 + M.length = P.length + (M.length + 1) by omega]
  exact this
theorem get_two (P M Q : List Pl) (x y : Pl) : (P ++ x :: (M ++ y :: Q))[P.length + 1 + M.length]? = some y := by
  have := get_mid (P ++ x :: M) Q y
  rw [List.append_assoc] at this
  simp only [List.cons_append, List.length_append, List.length_cons] at this
  rw [show P.length + 1 + M.length = P.length + (M.length + 1) by omega]
  exact this
theorem far1 {w : World} {g q i : Nat} {v u : Value} (h : w.cell? ⟨g, q, none⟩ = some u) (hq : q ≠ i) : (w.setCell ⟨g, i, none⟩ v).cell? ⟨g, q, none⟩ = some u := by
  rw [World.cell?_setCell_other _ _ _ _ (by intro e; injection e with _ e; exact hq e.symm)]; exact h
theorem far3 {w : World} {g q i j k : Nat} {v0 v1 v2 u : Value} (h : w.cell? ⟨g, q, none⟩ = some u) (hi : q ≠ i) (hj : q ≠ j) (hk : q ≠ k) : (((w.setCell ⟨g, i, none⟩ v0).setCell ⟨g, j, none⟩ v1).setCell ⟨g, k, none⟩ v2).cell? ⟨g, q, none⟩ = some u := far1 (far1 (far1 h hi) hj) hk
theorem cell_drew (w : World) (a : Addr) : w.drew.cell? a = w.cell? a := rfl
set_option maxHeartbeats 4000000 in
theorem swapRange (cmp : Value) (g : Nat) (rest : List Value) (len cap : Nat) (pre X M Y post : List Pl) (w : World) (B : Nat) (hB : B ≤ g) (hR : Row w g rest (pre ++ (X ++ (M ++ (Y ++ post))))) (hlen : (pre ++ (X ++ (M ++ (Y ++ post)))).length = len) (hmax : len ≤ 35184372088320) (hXY : X.length = Y.length) (a b n : Nat) (ha : pre.length = a) (hb : a + X.length + M.length = b) (hn : X.length = n) :
    Calls Tryz.prog 120 #[.slice (some ⟨g, 0, none⟩) len cap, .int .i64 a, .int .i64 b, .int .i64 n, cmp] w fun e w' => e = .returned (.tuple #[]) ∧ Row w' g rest (pre ++ (Y ++ (M ++ (X ++ post)))) ∧ Below B w w' := by
  have HL := Lib.hid hlen
  have HX := Lib.hid hXY
  have HA := Lib.hid ha
  have HBB := Lib.hid hb
  have HN := Lib.hid hn
  have hR0 := Lib.hid hR
  have hlen' : pre.length + X.length + M.length + Y.length + post.length = len := by rw [← hlen]; simp; omega
  have b1 : a + n ≤ len := by omega
  have b2 : b + n ≤ len := by omega
  have HL' := Lib.hid hlen'
  clear hlen hXY ha hb hn hR hlen'
  go_enter Tryz.func120, Tryz.ntmps120
  go_wp2
  go_loopw [10] (fun i wr => ∃ (Xa Xb Ya Yb : List Pl), Xa.length ≤ n ∧ i = .int .i64 (Xa.length : Nat) ∧ Hid (X = Xa ++ Xb ∧ Y = Ya ++ Yb ∧ Xa.length = Ya.length) ∧ Row wr g rest (pre ++ (Ya ++ (Xb ++ (M ++ (Xa ++ (Yb ++ post)))))) ∧ Below B w wr) (fun i _ => n - (intOf i).toNat)
  case atStart => exact ⟨[], X, [], Y, Nat.zero_le _, rfl, Lib.hid ⟨rfl, rfl, rfl⟩, by simpa using hR0.out, Below.refl _ _⟩
  case round =>
    obtain ⟨Xa, Xb, Ya, Yb, hk, hi, HS, hRow, hBel⟩ := hrel
    obtain ⟨i, hI⟩ : ∃ i, i = Xa.length := ⟨_, rfl⟩
    rw [← hI] at hk hi
    subst hi
    have HI := Lib.hid hI
    clear hI
    by_cases hlt : i < n
    · have hXl : Xa.length + Xb.length = n := by rw [← HN.out, HS.out.1, List.length_append]
      have hYl : Ya.length + Yb.length = n := by rw [← HN.out, HX.out, HS.out.2.1, List.length_append]
      obtain ⟨x, Xb, rfl⟩ : ∃ x l, Xb = x :: l := by
        cases Xb with
        | nil => have := HI.out; simp at hXl; omega
        | cons x l => exact ⟨x, l, rfl⟩
      obtain ⟨y, Yb, rfl⟩ : ∃ x l, Yb = x :: l := by
        cases Yb with
        | nil => have := HI.out; have := HS.out.2.2; simp at hYl; omega
        | cons x l => exact ⟨x, l, rfl⟩
      have hrw : pre ++ (Ya ++ (x :: Xb ++ (M ++ (Xa ++ (y :: Yb ++ post))))) = (pre ++ Ya) ++ x :: ((Xb ++ (M ++ Xa)) ++ y :: (Yb ++ post)) := by simp
      have hPl : (pre ++ Ya).length = a + i := by have := HI.out; have := HS.out.2.2; have := HA.out; rw [List.length_append]; omega
      have hMl : (pre ++ Ya).length + 1 + (Xb ++ (M ++ Xa)).length = b + i := by
        have h1 := HI.out; have h2 := HBB.out; have h3 := HN.out; simp only [List.length_append, List.length_cons] at hXl hPl ⊢; omega
      rw [hrw] at hRow
      have gx := get_mid (pre ++ Ya) ((Xb ++ (M ++ Xa)) ++ y :: (Yb ++ post)) x
      have gy := get_two (pre ++ Ya) (Xb ++ (M ++ Xa)) (Yb ++ post) x y
      rw [hPl] at gx
      rw [hMl] at gy
      have x0 := hRow.c0 gx
      have x1 := hRow.c1 gx
      have x2 := hRow.c2 gx
      have y0 := hRow.c0 gy
      have y1 := hRow.c1 gy
      have y2 := hRow.c2 gy
      have fx0 := hRow.f ((a + i) * 3)
      have fx1 := hRow.f ((a + i) * 3 + 1)
      have fx2 := hRow.f ((a + i) * 3 + 2)
      have fy0 := hRow.f ((b + i) * 3)
      have fy1 := hRow.f ((b + i) * 3 + 1)
      have fy2 := hRow.f ((b + i) * 3 + 2)
      have hsw := hRow.swap (i := a + i) (j := b + i) (by rw [← hPl]; simp) (by rw [← hMl]; simp only [List.length_append, List.length_cons]; omega) x y
      have e2 := two_set (pre ++ Ya) (Xb ++ (M ++ Xa)) (Yb ++ post) x y
      rw [hMl, hPl] at e2
      rw [e2] at hsw
      have HSW := Lib.hid hsw
      have HBel := Lib.hid hBel
      have HR := Lib.hid (And.intro hXl hYl)
      have HP := Lib.hid (And.intro hPl hMl)
      have hab : a < b := by have h1 := hXl; have h2 := HBB.out; have h3 := HN.out; omega
      clear hsw e2 hRow gx gy hrw hPl hMl hXl hYl hBel
      have z0 : ((((wr.setCell ⟨g, (a + i) * 3, none⟩ (.int .i32 y.r)).setCell ⟨g, (a + i) * 3 + 1, none⟩ (.int .i64 y.k)).setCell ⟨g, (a + i) * 3 + 2, none⟩ (.int .u8 y.c)).drew).cell? ⟨g, (b + i) * 3, none⟩ = some (.int .i32 y.r) := (cell_drew _ _).trans <| far3 y0 (by omega) (by omega) (by omega)
      have z1 : (((((wr.setCell ⟨g, (a + i) * 3, none⟩ (.int .i32 y.r)).setCell ⟨g, (a + i) * 3 + 1, none⟩ (.int .i64 y.k)).setCell ⟨g, (a + i) * 3 + 2, none⟩ (.int .u8 y.c)).setCell ⟨g, (b + i) * 3, none⟩ (.int .i32 x.r)).drew).cell? ⟨g, (b + i) * 3 + 1, none⟩ = some (.int .i64 y.k) := (cell_drew _ _).trans <| far1 (far3 y1 (by omega) (by omega) (by omega)) (by omega)
      have z2 : ((((((wr.setCell ⟨g, (a + i) * 3, none⟩ (.int .i32 y.r)).setCell ⟨g, (a + i) * 3 + 1, none⟩ (.int .i64 y.k)).setCell ⟨g, (a + i) * 3 + 2, none⟩ (.int .u8 y.c)).setCell ⟨g, (b + i) * 3, none⟩ (.int .i32 x.r)).setCell ⟨g, (b + i) * 3 + 1, none⟩ (.int .i64 x.k)).drew).cell? ⟨g, (b + i) * 3 + 2, none⟩ = some (.int .u8 y.c) := (cell_drew _ _).trans <| far1 (far1 (far3 y2 (by omega) (by omega) (by omega)) (by omega)) (by omega)
      go_wp2_with fail
      go_region
      all_goals go_wp2
      go_roundw
      case rel =>
        refine ⟨Xa ++ [x], Xb, Ya ++ [y], Yb, ?_, ?_, Lib.hid ⟨?_, ?_, ?_⟩, ?_, ?_⟩
        · have := HI.out; simp; omega
        · have := HI.out; rw [List.length_append, List.length_singleton, ← this]; go_num
        · rw [HS.out.1]; simp
        · rw [HS.out.2.1]; simp
        · have := HS.out.2.2; simp [this]
        · have e := HSW.out
          have e2 : pre ++ Ya ++ y :: (Xb ++ (M ++ Xa) ++ x :: (Yb ++ post)) = pre ++ (Ya ++ [y] ++ (Xb ++ (M ++ (Xa ++ [x] ++ (Yb ++ post))))) := by simp
          rw [e2] at e
          exact Row.drew e
        · exact (bel_set6 HBel.out hB _ _ _ _ _ _ _ _ _ _ _ _).drew
      case measure => simp [intOf]; omega
    · have hXl : Xa.length + Xb.length = n := by rw [← HN.out, HS.out.1, List.length_append]
      have hYl : Ya.length + Yb.length = n := by rw [← HN.out, HX.out, HS.out.2.1, List.length_append]
      have hX0 : Xb = [] := List.eq_nil_of_length_eq_zero (by have := HI.out; omega)
      have hY0 : Yb = [] := List.eq_nil_of_length_eq_zero (by have := HI.out; have := HS.out.2.2; omega)
      have e1 : pre ++ (Ya ++ (Xb ++ (M ++ (Xa ++ (Yb ++ post))))) = pre ++ (Y ++ (M ++ (X ++ post))) := by rw [HS.out.1, HS.out.2.1, hX0, hY0]; simp
      rw [e1] at hRow
      have HRow := Lib.hid hRow
      have HBel := Lib.hid hBel
      clear hXl hYl hX0 hY0 e1 hRow hBel
      go_wp2
      go_end0
      exact ⟨rfl, HRow.out, HBel.out⟩
theorem swapRangeZ (cmp : Value) (g : Nat) (rest : List Value) (len cap : Nat) (pre X M Y post : List Pl) (w : World) (B : Nat) (hB : B ≤ g) (hR : Row w g rest (pre ++ (X ++ (M ++ (Y ++ post))))) (hlen : (pre ++ (X ++ (M ++ (Y ++ post)))).length = len) (hmax : len ≤ 35184372088320) (hXY : X.length = Y.length) (a b n : Int) (ha : a = pre.length) (hb : b = (pre.length + X.length + M.length : Nat)) (hn : n = X.length) :
    Calls Tryz.prog 120 #[.slice (some ⟨g, 0, none⟩) len cap, .int .i64 a, .int .i64 b, .int .i64 n, cmp] w fun e w' => e = .returned (.tuple #[]) ∧ Row w' g rest (pre ++ (Y ++ (M ++ (X ++ post)))) ∧ Below B w w' := by
  subst ha hb hn
  exact swapRange cmp g rest len cap pre X M Y post w B hB hR hlen hmax hXY _ _ _ rfl rfl rfl
end Go.Proofs.YtbclodbneonipaaGreat
namespace Go.Proofs.YtbclodbneonipaaGreat
open Go.RowKit N
set_option maxHeartbeats 4000000 in
theorem rotate (cmp : Value) (g : Nat) (rest : List Value) (len cap : Nat) (pre X Y post : List Pl) (w : World) (B : Nat) (hB : B ≤ g) (hR : Row w g rest (pre ++ (X ++ (Y ++ post)))) (hlen : (pre ++ (X ++ (Y ++ post))).length = len) (hmax : len ≤ 35184372088320) (hX : 0 < X.length) (hY : 0 < Y.length) (a m b : Nat) (ha : pre.length = a) (hm : a + X.length = m) (hb : m + Y.length = b) :
    Calls Tryz.prog 108 #[.slice (some ⟨g, 0, none⟩) len cap, .int .i64 a, .int .i64 m, .int .i64 b, cmp] w fun e w' => e = .returned (.tuple #[]) ∧ Row w' g rest (pre ++ (Y ++ (X ++ post))) ∧ Below B w w' := by
  have hlen' : pre.length + X.length + Y.length + post.length = len := by rw [← hlen]; simp; omega
  have b1 : b ≤ len := by omega
  have b2 : a < m := by omega
  have b3 : m < b := by omega
  obtain ⟨T, hT⟩ : ∃ T, T = pre ++ (Y ++ (X ++ post)) := ⟨_, rfl⟩
  rw [← hT]
  have HI0 : Hid (X.length = m - a ∧ Y.length = b - m ∧ pre.length + X.length = m ∧ T = pre ++ (Y ++ (X ++ post)) ∧ (pre ++ (X ++ (Y ++ post))).length = len) := Lib.hid ⟨by omega, by omega, by omega, hT, hlen⟩
  have HR0 := Lib.hid hR
  clear hlen hlen' hR hX hY ha hm hb hT
  go_enter Tryz.func108, Tryz.ntmps108
  go_wp2
  go_loopw [10, 11] (fun iv jv wr => ∃ (i j : Nat) (pr X' Y' po : List Pl), iv = .int .i64 i ∧ jv = .int .i64 j ∧ 0 < i ∧ 0 < j ∧ i ≤ m ∧ m + j ≤ len ∧ Hid (X'.length = i ∧ Y'.length = j ∧ pr.length + i = m ∧ T = pr ++ (Y' ++ (X' ++ po)) ∧ (pr ++ (X' ++ (Y' ++ po))).length = len) ∧ Row wr g rest (pr ++ (X' ++ (Y' ++ po))) ∧ Below B w wr) (fun i j _ => (intOf i).toNat + (intOf j).toNat)
  case atStart =>
    obtain ⟨h1, h2, h3, h4, h5⟩ := HI0.out
    exact ⟨m - a, b - m, pre, X, Y, post, by congr 1; omega, by congr 1; omega, by omega, by omega, by omega, by omega, Lib.hid ⟨h1, h2, by omega, h4, h5⟩, HR0.out, Below.refl _ _⟩
  case round =>
    obtain ⟨i, j, pr, X', Y', po, rfl, rfl, hi, hj, him, hjm, HI, hRow, hBel⟩ := hrel
    have HRow := Lib.hid hRow
    have HBel := Lib.hid hBel
    clear hRow hBel
    by_cases hij : i = j
    · have e1 : ((i : Int) != (j : Int)) = false := by simp [hij]
      have HE := Lib.hid hij
      clear hij
      go_wp2_with fail
      obtain ⟨h1, h2, h3, h4, h5⟩ := HI.out
      refine (swapRangeZ cmp g rest len cap pr X' [] Y' po _ B hB HRow.out (by simpa using h5) hmax (by have := HE.out; omega) _ _ _ (by omega) (by simp; omega) (by omega)).mono ?_
      rintro e w1 ⟨rfl, hR1, hB1⟩
      clear h1 h2 h3 h5
      go_wp2
      go_end0
      exact ⟨rfl, by rw [h4]; exact hR1, HBel.out.trans hB1⟩
    · by_cases hgt : j < i
      · have e1 : ((i : Int) != (j : Int)) = true := by simp; omega
        clear hij
        go_wp2_with fail
        obtain ⟨h1, h2, h3, h4, h5⟩ := HI.out
        obtain ⟨X1, X2, rfl, hl⟩ : ∃ X1 X2, X' = X1 ++ X2 ∧ X1.length = j := ⟨X'.take j, X'.drop j, by simp, by rw [List.length_take]; omega⟩
        rw [List.length_append] at h1
        refine (swapRangeZ cmp g rest len cap pr X1 X2 Y' po _ B hB (by simpa using HRow.out) (by simpa using h5) hmax (by omega) _ _ _ (by omega) (by omega) (by omega)).mono ?_
        rintro e w1 ⟨rfl, hR1, hB1⟩
        have HF := Lib.hid (And.intro h1 (And.intro h2 (And.intro h3 (And.intro h4 (And.intro h5 hl)))))
        have HR1 := Lib.hid hR1
        have HB1 := Lib.hid (HBel.out.trans hB1)
        clear h1 h2 h3 h4 h5 hl hR1 hB1
        go_wp2
        go_roundw
        case rel =>
          obtain ⟨h1, h2, h3, h4, h5, hl⟩ := HF.out
          refine ⟨i - j, j, pr ++ Y', X2, X1, po, by congr 1; omega, rfl, by omega, by omega, by omega, by omega, Lib.hid ⟨by omega, hl, by rw [List.length_append]; omega, by rw [h4]; simp, ?_⟩, by simpa using HR1.out, HB1.out⟩
          rw [← h5]; simp only [List.length_append]; omega
        case measure => simp [intOf]; omega
      · have e1 : ((i : Int) != (j : Int)) = true := by simp; omega
        have hlt : i < j := by omega
        clear hij
        go_wp2_with fail
        obtain ⟨h1, h2, h3, h4, h5⟩ := HI.out
        obtain ⟨Y1, Y2, rfl, hl⟩ : ∃ Y1 Y2, Y' = Y1 ++ Y2 ∧ Y2.length = i := ⟨Y'.take (j - i), Y'.drop (j - i), by simp, by rw [List.length_drop]; omega⟩
        rw [List.length_append] at h2
        refine (swapRangeZ cmp g rest len cap pr X' Y1 Y2 po _ B hB (by simpa using HRow.out) (by simpa using h5) hmax (by omega) _ _ _ (by omega) (by omega) (by omega)).mono ?_
        rintro e w1 ⟨rfl, hR1, hB1⟩
        have HF := Lib.hid (And.intro h1 (And.intro h2 (And.intro h3 (And.intro h4 (And.intro h5 hl)))))
        have HR1 := Lib.hid hR1
        have HB1 := Lib.hid (HBel.out.trans hB1)
        clear h1 h2 h3 h4 h5 hl hR1 hB1
        go_wp2
        go_roundw
        case rel =>
          obtain ⟨h1, h2, h3, h4, h5, hl⟩ := HF.out
          refine ⟨i, j - i, pr, Y2, Y1, X' ++ po, rfl, by congr 1; omega, by omega, by omega, by omega, by omega, Lib.hid ⟨hl, by omega, by omega, by rw [h4]; simp, ?_⟩, by simpa using HR1.out, HB1.out⟩
          rw [← h5]; simp only [List.length_append]; omega
        case measure => simp [intOf]; omega
theorem rotateZ (cmp : Value) (g : Nat) (rest : List Value) (len cap : Nat) (pre X Y post : List Pl) (w : World) (B : Nat) (hB : B ≤ g) (hR : Row w g rest (pre ++ (X ++ (Y ++ post)))) (hlen : (pre ++ (X ++ (Y ++ post))).length = len) (hmax : len ≤ 35184372088320) (hX : 0 < X.length) (hY : 0 < Y.length) (a m b : Int) (ha : a = pre.length) (hm : m = (pre.length + X.length : Nat)) (hb : b = (pre.length + X.length + Y.length : Nat)) :
    Calls Tryz.prog 108 #[.slice (some ⟨g, 0, none⟩) len cap, .int .i64 a, .int .i64 m, .int .i64 b, cmp] w fun e w' => e = .returned (.tuple #[]) ∧ Row w' g rest (pre ++ (Y ++ (X ++ post))) ∧ Below B w w' := by
  subst ha hm hb
  exact rotate cmp g rest len cap pre X Y post w B hB hR hlen hmax hX hY _ _ _ rfl rfl rfl
end Go.Proofs.YtbclodbneonipaaGreat
