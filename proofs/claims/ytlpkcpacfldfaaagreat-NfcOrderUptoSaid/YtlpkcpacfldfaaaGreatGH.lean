import Derived.Test.YtlpkcpacfldfaaaGreatGB
import Derived.BigRegion
import Derived.RegionTactic
import Derived.Test.YtlpkcpacfldfaaaGreatGA
import Derived.Deep.Quiet
import Derived.Orders
import Derived.Below
import Derived.Great.Frames
import Derived.Deep.QuietTactic
namespace Go.Proofs.YtlpkcpacfldfaaaGreat
open Go.RowKit N
def encPl (x : Pl) : List Value := [.int .i32 x.r, .int .i64 x.k, .int .u8 x.c]
def encs (D : List Pl) : List Value := D.flatMap encPl
theorem encs_nil : encs [] = [] := rfl
theorem encs_cons (x : Pl) (D : List Pl) : encs (x :: D) = encPl x ++ encs D := by unfold encs; rw [List.flatMap_cons]
theorem encs_app (A B : List Pl) : encs (A ++ B) = encs A ++ encs B := List.flatMap_append
theorem encs_len : ∀ D : List Pl, (encs D).length = D.length * 3
  | [] => rfl
  | x :: D => by rw [encs_cons, List.length_append, encs_len D]; simp [encPl]; omega
theorem encs_at : ∀ (D : List Pl) (rest : List Value) (i j : Nat) (x : Pl), D[i]? = some x → j < 3 → (encs D ++ rest)[i * 3 + j]? = (encPl x)[j]?
  | [], _, i, _, _, h, _ => by simp at h
  | y :: D, rest, 0, j, x, h, hj => by
    simp at h; subst h
    rw [encs_cons, List.append_assoc, Nat.zero_mul, Nat.zero_add, List.getElem?_append_left (by simp [encPl]; omega)]
  | y :: D, rest, i + 1, j, x, h, hj => by
    rw [encs_cons, List.append_assoc, List.getElem?_append_right (by simp [encPl]; omega)]
    have := encs_at D rest i j x (by simpa using h) hj
    rw [← this]
    congr 1
    simp [encPl]; omega
theorem encs_set : ∀ (D : List Pl) (rest : List Value) (i : Nat) (x : Pl), i < D.length → (((encs D ++ rest).set (i * 3) (.int .i32 x.r)).set (i * 3 + 1) (.int .i64 x.k)).set (i * 3 + 2) (.int .u8 x.c) = encs (D.set i x) ++ rest
  | [], _, i, _, h => by simp at h
  | y :: D, rest, 0, x, _ => by simp [encs_cons, encPl]
  | y :: D, rest, i + 1, x, h => by
    have := encs_set D rest i x (by simpa using h)
    rw [List.set_cons_succ, encs_cons, encs_cons]
    have e : (i + 1) * 3 = i * 3 + 3 := by omega
    rw [e]
    simp only [encPl, List.cons_append, List.nil_append, List.set_cons_succ]
    rw [← this]
def Row (w : World) (g : Nat) (rest : List Value) (D : List Pl) : Prop := Has w g (.cells (encs D ++ rest).toArray 77)
section
variable {w w' : World} {g : Nat} {rest : List Value} {D : List Pl}
theorem Row.c0 (h : Row w g rest D) {i : Nat} {x : Pl} (hx : D[i]? = some x) : w.cell? ⟨g, i * 3, none⟩ = some (.int .i32 x.r) := Has.cell h _ (by rw [List.getElem?_toArray]; exact encs_at D rest i 0 x hx (by omega))
theorem Row.c1 (h : Row w g rest D) {i : Nat} {x : Pl} (hx : D[i]? = some x) : w.cell? ⟨g, i * 3 + 1, none⟩ = some (.int .i64 x.k) := Has.cell h _ (by rw [List.getElem?_toArray]; exact encs_at D rest i 1 x hx (by omega))
theorem Row.c2 (h : Row w g rest D) {i : Nat} {x : Pl} (hx : D[i]? = some x) : w.cell? ⟨g, i * 3 + 2, none⟩ = some (.int .u8 x.c) := Has.cell h _ (by rw [List.getElem?_toArray]; exact encs_at D rest i 2 x hx (by omega))
theorem Row.f (h : Row w g rest D) (i : Nat) : w.frozen? ⟨g, i, none⟩ = false := Has.free h i
theorem Row.store (h : Row w g rest D) {i : Nat} (hi : i < D.length) (x : Pl) : Row (((w.setCell ⟨g, i * 3, none⟩ (.int .i32 x.r)).setCell ⟨g, i * 3 + 1, none⟩ (.int .i64 x.k)).setCell ⟨g, i * 3 + 2, none⟩ (.int .u8 x.c)) g rest (D.set i x) := by
  have := ((Has.set h (i * 3) (.int .i32 x.r)).set (i * 3 + 1) (.int .i64 x.k)).set (i * 3 + 2) (.int .u8 x.c)
  unfold Row
  rw [← encs_set D rest i x hi]
  simpa using this
theorem Row.swap (h : Row w g rest D) {i j : Nat} (hi : i < D.length) (hj : j < D.length) (x y : Pl) : Row ((((((w.setCell ⟨g, i * 3, none⟩ (.int .i32 y.r)).setCell ⟨g, i * 3 + 1, none⟩ (.int .i64 y.k)).setCell ⟨g, i * 3 + 2, none⟩ (.int .u8 y.c)).setCell ⟨g, j * 3, none⟩ (.int .i32 x.r)).setCell ⟨g, j * 3 + 1, none⟩ (.int .i64 x.k)).setCell ⟨g, j * 3 + 2, none⟩ (.int .u8 x.c)) g rest ((D.set i y).set j x) :=
  (h.store hi y).store (by simpa using hj) x
theorem Row.drew (h : Row w g rest D) : Row w.drew g rest D := h
theorem Row.to (h : Row w g rest D) (hb : Below w.heap.size w w') : Row w' g rest D := Has.to h hb
end
theorem bel_set6 {B g : Nat} {w w' : World} (h : Below B w w') (hg : B ≤ g) (i0 i1 i2 i3 i4 i5 : Nat) (v0 v1 v2 v3 v4 v5 : Value) : Below B w ((((((w'.setCell ⟨g, i0, none⟩ v0).setCell ⟨g, i1, none⟩ v1).setCell ⟨g, i2, none⟩ v2).setCell ⟨g, i3, none⟩ v3).setCell ⟨g, i4, none⟩ v4).setCell ⟨g, i5, none⟩ v5) :=
  (((((h.setCell (p := ⟨g, i0, none⟩) hg _).setCell (p := ⟨g, i1, none⟩) hg _).setCell (p := ⟨g, i2, none⟩) hg _).setCell (p := ⟨g, i3, none⟩) hg _).setCell (p := ⟨g, i4, none⟩) hg _).setCell (p := ⟨g, i5, none⟩) hg _
theorem set_mid {α : Type} (P Q : List α) (x y : α) : (P ++ x :: Q).set P.length y = P ++ y :: Q := by
  rw [List.set_append_right _ _ (Nat.le_refl _)]; simp
theorem get_mid {α : Type} (P Q : List α) (x : α) : (P ++ x :: Q)[P.length]? = some x := by simp
theorem two_set (P M Q : List Pl) (x y : Pl) : ((P ++ x :: (M ++ y :: Q)).set P.length y).set (P.length + 1 + M.length) x = P ++ y :: (M ++ x :: Q) := by
  rw [set_mid]
  have := set_mid (P ++ y :: M) Q y x
  rw [List.append_assoc, List.append_assoc] at this
  simp only [List.cons_append, List.length_append, List.length_cons] at this
  rw [show P.length + 1 + M.length = P.length + (M.length + 1) by omega]
  exact this
theorem get_two (P M Q : List Pl) (x y : Pl) : (P ++ x :: (M ++ y :: Q))[P.length + 1 + M.length]? = some y := by
  have := get_mid (P ++ x :: M) Q y
  rw [List.append_assoc] at this
  simp only [List.cons_append, List.length_append, List.length_cons] at this
  rw [show P.length + 1 + M.length = P.length + (M.length + 1) by omega]
  exact this
theorem far1 {w : World} {g q i : Nat} {v u : Value} (h : w.cell? ⟨g, q, none⟩ = some u) (hq : q ≠ i) : (w.setCell ⟨g, i, none⟩ v).cell? ⟨g, q, none⟩ = some u := by
  rw [World.cell?_setCell_other _ _ _ _ (by intro e; injection e with _ e; exact hq e.symm)]; exact h
theorem far3 {w : World} {g q i j k : Nat} {v0 v1 v2 u : Value} (h : w.cell? ⟨g, q, none⟩ = some u) (hi : q ≠ i) (hj : q ≠ j) (hk : q ≠ k) : (((w.setCell ⟨g, i, none⟩ v0).setCell ⟨g, j, none⟩ v1).setCell ⟨g, k, none⟩ v2).cell? ⟨g, q, none⟩ = some u := far1 (far1 (far1 h hi) hj) hk
theorem cell_drew (w : World) (a : Addr) : w.drew.cell? a = w.cell? a := rfl
set_option maxHeartbeats 4000000 in
theorem swapRange (cmp : Value) (g : Nat) (rest : List Value) (len cap : Nat) (pre X M Y post : List Pl) (w : World) (B : Nat) (hB : B ≤ g) (hR : Row w g rest (pre ++ (X ++ (M ++ (Y ++ post))))) (hlen : (pre ++ (X ++ (M ++ (Y ++ post)))).length = len) (hmax : len ≤ 35184372088320) (hXY : X.length = Y.length) (a b n : Nat) (ha : pre.length = a) (hb : a + X.length + M.length = b) (hn : X.length = n) :
    Calls Tryz.prog 251 #[.slice (some ⟨g, 0, none⟩) len cap, .int .i64 a, .int .i64 b, .int .i64 n, cmp] w fun e w' => e = .returned (.tuple #[]) ∧ Row w' g rest (pre ++ (Y ++ (M ++ (X ++ post)))) ∧ Below B w w' := by
  have HL := Lib.hid hlen
  have HX := Lib.hid hXY
  have HA := Lib.hid ha
  have HBB := Lib.hid hb
  have HN := Lib.hid hn
  have hR0 := Lib.hid hR
  have hlen' : pre.length + X.length + M.length + Y.length + post.length = len := by rw [← hlen]; simp; omega
  have b1 : a + n ≤ len := by omega
  have b2 : b + n ≤ len := by omega
  have HL' := Lib.hid hlen'
  clear hlen hXY ha hb hn hR hlen'
  go_enter Tryz.func251, Tryz.ntmps251
  go_wp2
  go_loopw [10] (fun i wr => ∃ (Xa Xb Ya Yb : List Pl), Xa.length ≤ n ∧ i = .int .i64 (Xa.length : Nat) ∧ Hid (X = Xa ++ Xb ∧ Y = Ya ++ Yb ∧ Xa.length = Ya.length) ∧ Row wr g rest (pre ++ (Ya ++ (Xb ++ (M ++ (Xa ++ (Yb ++ post)))))) ∧ Below B w wr) (fun i _ => n - (intOf i).toNat)
  case atStart => exact ⟨[], X, [], Y, Nat.zero_le _, rfl, Lib.hid ⟨rfl, rfl, rfl⟩, by simpa using hR0.out, Below.refl _ _⟩
  case round =>
    obtain ⟨Xa, Xb, Ya, Yb, hk, hi, HS, hRow, hBel⟩ := hrel
    obtain ⟨i, hI⟩ : ∃ i, i = Xa.length := ⟨_, rfl⟩
    rw [← hI] at hk hi
    subst hi
    have HI := Lib.hid hI
    clear hI
    by_cases hlt : i < n
    · have hXl : Xa.length + Xb.length = n := by rw [← HN.out, HS.out.1, List.length_append]
      have hYl : Ya.length + Yb.length = n := by rw [← HN.out, HX.out, HS.out.2.1, List.length_append]
      obtain ⟨x, Xb, rfl⟩ : ∃ x l, Xb = x :: l := by
        cases Xb with
        | nil => have := HI.out; simp at hXl; omega
        | cons x l => exact ⟨x, l, rfl⟩
      obtain ⟨y, Yb, rfl⟩ : ∃ x l, Yb = x :: l := by
        cases Yb with
        | nil => have := HI.out; have := HS.out.2.2; simp at hYl; omega
        | cons x l => exact ⟨x, l, rfl⟩
      have hrw : pre ++ (Ya ++ (x :: Xb ++ (M ++ (Xa ++ (y :: Yb ++ post))))) = (pre ++ Ya) ++ x :: ((Xb ++ (M ++ Xa)) ++ y :: (Yb ++ post)) := by simp
      have hPl : (pre ++ Ya).length = a + i := by have := HI.out; have := HS.out.2.2; have := HA.out; rw [List.length_append]; omega
      have hMl : (pre ++ Ya).length + 1 + (Xb ++ (M ++ Xa)).length = b + i := by
        have h1 := HI.out; have h2 := HBB.out; have h3 := HN.out; simp only [List.length_append, List.length_cons] at hXl hPl ⊢; omega
      rw [hrw] at hRow
      have gx := get_mid (pre ++ Ya) ((Xb ++ (M ++ Xa)) ++ y :: (Yb ++ post)) x
      have gy := get_two (pre ++ Ya) (Xb ++ (M ++ Xa)) (Yb ++ post) x y
      rw [hPl] at gx
      rw [hMl] at gy
      have x0 := hRow.c0 gx
      have x1 := hRow.c1 gx
      have x2 := hRow.c2 gx
      have y0 := hRow.c0 gy
      have y1 := hRow.c1 gy
      have y2 := hRow.c2 gy
      have fx0 := hRow.f ((a + i) * 3)
      have fx1 := hRow.f ((a + i) * 3 + 1)
      have fx2 := hRow.f ((a + i) * 3 + 2)
      have fy0 := hRow.f ((b + i) * 3)
      have fy1 := hRow.f ((b + i) * 3 + 1)
      have fy2 := hRow.f ((b + i) * 3 + 2)
      have hsw := hRow.swap (i := a + i) (j := b + i) (by rw [← hPl]; simp) (by rw [← hMl]; simp only [List.length_append, List.length_cons]; omega) x y
      have e2 := two_set (pre ++ Ya) (Xb ++ (M ++ Xa)) (Yb ++ post) x y
      rw [hMl, hPl] at e2
      rw [e2] at hsw
      have HSW := Lib.hid hsw
      have HBel := Lib.hid hBel
      have HR := Lib.hid (And.intro hXl hYl)
      have HP := Lib.hid (And.intro hPl hMl)
      have hab : a < b := by have h1 := hXl; have h2 := HBB.out; have h3 := HN.out; omega
      clear hsw e2 hRow gx gy hrw hPl hMl hXl hYl hBel
      have z0 : ((((wr.setCell ⟨g, (a + i) * 3, none⟩ (.int .i32 y.r)).setCell ⟨g, (a + i) * 3 + 1, none⟩ (.int .i64 y.k)).setCell ⟨g, (a + i) * 3 + 2, none⟩ (.int .u8 y.c)).drew).cell? ⟨g, (b + i) * 3, none⟩ = some (.int .i32 y.r) := (cell_drew _ _).trans <| far3 y0 (by omega) (by omega) (by omega)
      have z1 : (((((wr.setCell ⟨g, (a + i) * 3, none⟩ (.int .i32 y.r)).setCell ⟨g, (a + i) * 3 + 1, none⟩ (.int .i64 y.k)).setCell ⟨g, (a + i) * 3 + 2, none⟩ (.int .u8 y.c)).setCell ⟨g, (b + i) * 3, none⟩ (.int .i32 x.r)).drew).cell? ⟨g, (b + i) * 3 + 1, none⟩ = some (.int .i64 y.k) := (cell_drew _ _).trans <| far1 (far3 y1 (by omega) (by omega) (by omega)) (by omega)
      have z2 : ((((((wr.setCell ⟨g, (a + i) * 3, none⟩ (.int .i32 y.r)).setCell ⟨g, (a + i) * 3 + 1, none⟩ (.int .i64 y.k)).setCell ⟨g, (a + i) * 3 + 2, none⟩ (.int .u8 y.c)).setCell ⟨g, (b + i) * 3, none⟩ (.int .i32 x.r)).setCell ⟨g, (b + i) * 3 + 1, none⟩ (.int .i64 x.k)).drew).cell? ⟨g, (b + i) * 3 + 2, none⟩ = some (.int .u8 y.c) := (cell_drew _ _).trans <| far1 (far1 (far3 y2 (by omega) (by omega) (by omega)) (by omega)) (by omega)
      go_wp2_with fail
      go_region
      all_goals go_wp2
      go_roundw
      case rel =>
        refine ⟨Xa ++ [x], Xb, Ya ++ [y], Yb, ?_, ?_, Lib.hid ⟨?_, ?_, ?_⟩, ?_, ?_⟩
        · have := HI.out; simp; omega
        · have := HI.out; rw [List.length_append, List.length_singleton, ← this]; go_num
        · rw [HS.out.1]; simp
        · rw [HS.out.2.1]; simp
        · have := HS.out.2.2; simp [this]
        · have e := HSW.out
          have e2 : pre ++ Ya ++ y :: (Xb ++ (M ++ Xa) ++ x :: (Yb ++ post)) = pre ++ (Ya ++ [y] ++ (Xb ++ (M ++ (Xa ++ [x] ++ (Yb ++ post))))) := by simp
          rw [e2] at e
          exact Row.drew e
        · exact (bel_set6 HBel.out hB _ _ _ _ _ _ _ _ _ _ _ _).drew
      case measure => simp [intOf]; omega
    · have hXl : Xa.length + Xb.length = n := by rw [← HN.out, HS.out.1, List.length_append]
      have hYl : Ya.length + Yb.length = n := by rw [← HN.out, HX.out, HS.out.2.1, List.length_append]
      have hX0 : Xb = [] := List.eq_nil_of_length_eq_zero (by have := HI.out; omega)
      have hY0 : Yb = [] := List.eq_nil_of_length_eq_zero (by have := HI.out; have := HS.out.2.2; omega)
      have e1 : pre ++ (Ya ++ (Xb ++ (M ++ (Xa ++ (Yb ++ post))))) = pre ++ (Y ++ (M ++ (X ++ post))) := by rw [HS.out.1, HS.out.2.1, hX0, hY0]; simp
      rw [e1] at hRow
      have HRow := Lib.hid hRow
      have HBel := Lib.hid hBel
      clear hXl hYl hX0 hY0 e1 hRow hBel
      go_wp2
      go_end0
      exact ⟨rfl, HRow.out, HBel.out⟩
theorem swapRangeZ (cmp : Value) (g : Nat) (rest : List Value) (len cap : Nat) (pre X M Y post : List Pl) (w : World) (B : Nat) (hB : B ≤ g) (hR : Row w g rest (pre ++ (X ++ (M ++ (Y ++ post))))) (hlen : (pre ++ (X ++ (M ++ (Y ++ post)))).length = len) (hmax : len ≤ 35184372088320) (hXY : X.length = Y.length) (a b n : Int) (ha : a = pre.length) (hb : b = (pre.length + X.length + M.length : Nat)) (hn : n = X.length) :
    Calls Tryz.prog 251 #[.slice (some ⟨g, 0, none⟩) len cap, .int .i64 a, .int .i64 b, .int .i64 n, cmp] w fun e w' => e = .returned (.tuple #[]) ∧ Row w' g rest (pre ++ (Y ++ (M ++ (X ++ post)))) ∧ Below B w w' := by
  subst ha hb hn
  exact swapRange cmp g rest len cap pre X M Y post w B hB hR hlen hmax hXY _ _ _ rfl rfl rfl
end Go.Proofs.YtlpkcpacfldfaaaGreat
namespace Go.Proofs.YtlpkcpacfldfaaaGreat
open Go.RowKit N
set_option maxHeartbeats 4000000 in
theorem rotate (cmp : Value) (g : Nat) (rest : List Value) (len cap : Nat) (pre X Y post : List Pl) (w : World) (B : Nat) (hB : B ≤ g) (hR : Row w g rest (pre ++ (X ++ (Y ++ post)))) (hlen : (pre ++ (X ++ (Y ++ post))).length = len) (hmax : len ≤ 35184372088320) (hX : 0 < X.length) (hY : 0 < Y.length) (a m b : Nat) (ha : pre.length = a) (hm : a + X.length = m) (hb : m + Y.length = b) :
    Calls Tryz.prog 228 #[.slice (some ⟨g, 0, none⟩) len cap, .int .i64 a, .int .i64 m, .int .i64 b, cmp] w fun e w' => e = .returned (.tuple #[]) ∧ Row w' g rest (pre ++ (Y ++ (X ++ post))) ∧ Below B w w' := by
  have hlen' : pre.length + X.length + Y.length + post.length = len := by rw [← hlen]; simp; omega
  have b1 : b ≤ len := by omega
  have b2 : a < m := by omega
  have b3 : m < b := by omega
  obtain ⟨T, hT⟩ : ∃ T, T = pre ++ (Y ++ (X ++ post)) := ⟨_, rfl⟩
  rw [← hT]
  have HI0 : Hid (X.length = m - a ∧ Y.length = b - m ∧ pre.length + X.length = m ∧ T = pre ++ (Y ++ (X ++ post)) ∧ (pre ++ (X ++ (Y ++ post))).length = len) := Lib.hid ⟨by omega, by omega, by omega, hT, hlen⟩
  have HR0 := Lib.hid hR
  clear hlen hlen' hR hX hY ha hm hb hT
  go_enter Tryz.func228, Tryz.ntmps228
  go_wp2
  go_loopw [10, 11] (fun iv jv wr => ∃ (i j : Nat) (pr X' Y' po : List Pl), iv = .int .i64 i ∧ jv = .int .i64 j ∧ 0 < i ∧ 0 < j ∧ i ≤ m ∧ m + j ≤ len ∧ Hid (X'.length = i ∧ Y'.length = j ∧ pr.length + i = m ∧ T = pr ++ (Y' ++ (X' ++ po)) ∧ (pr ++ (X' ++ (Y' ++ po))).length = len) ∧ Row wr g rest (pr ++ (X' ++ (Y' ++ po))) ∧ Below B w wr) (fun i j _ => (intOf i).toNat + (intOf j).toNat)
  case atStart =>
    obtain ⟨h1, h2, h3, h4, h5⟩ := HI0.out
    exact ⟨m - a, b - m, pre, X, Y, post, by congr 1; omega, by congr 1; omega, by omega, by omega, by omega, by omega, Lib.hid ⟨h1, h2, by omega, h4, h5⟩, HR0.out, Below.refl _ _⟩
  case round =>
    obtain ⟨i, j, pr, X', Y', po, rfl, rfl, hi, hj, him, hjm, HI, hRow, hBel⟩ := hrel
    have HRow := Lib.hid hRow
    have HBel := Lib.hid hBel
    clear hRow hBel
    by_cases hij : i = j
    · have e1 : ((i : Int) != (j : Int)) = false := by simp [hij]
      have HE := Lib.hid hij
      clear hij
      go_wp2_with fail
      obtain ⟨h1, h2, h3, h4, h5⟩ := HI.out
      refine (swapRangeZ cmp g rest len cap pr X' [] Y' po _ B hB HRow.out (by simpa using h5) hmax (by have := HE.out; omega) _ _ _ (by omega) (by simp; omega) (by omega)).mono ?_
      rintro e w1 ⟨rfl, hR1, hB1⟩
      clear h1 h2 h3 h5
      go_wp2
      go_end0
      exact ⟨rfl, by rw [h4]; exact hR1, HBel.out.trans hB1⟩
    · by_cases hgt : j < i
      · have e1 : ((i : Int) != (j : Int)) = true := by simp; omega
        clear hij
        go_wp2_with fail
        obtain ⟨h1, h2, h3, h4, h5⟩ := HI.out
        obtain ⟨X1, X2, rfl, hl⟩ : ∃ X1 X2, X' = X1 ++ X2 ∧ X1.length = j := ⟨X'.take j, X'.drop j, by simp, by rw [List.length_take]; omega⟩
        rw [List.length_append] at h1
        refine (swapRangeZ cmp g rest len cap pr X1 X2 Y' po _ B hB (by simpa using HRow.out) (by simpa using h5) hmax (by omega) _ _ _ (by omega) (by omega) (by omega)).mono ?_
        rintro e w1 ⟨rfl, hR1, hB1⟩
        have HF := Lib.hid (And.intro h1 (And.intro h2 (And.intro h3 (And.intro h4 (And.intro h5 hl)))))
        have HR1 := Lib.hid hR1
        have HB1 := Lib.hid (HBel.out.trans hB1)
        clear h1 h2 h3 h4 h5 hl hR1 hB1
        go_wp2
        go_roundw
        case rel =>
          obtain ⟨h1, h2, h3, h4, h5, hl⟩ := HF.out
          refine ⟨i - j, j, pr ++ Y', X2, X1, po, by congr 1; omega, rfl, by omega, by omega, by omega, by omega, Lib.hid ⟨by omega, hl, by rw [List.length_append]; omega, by rw [h4]; simp, ?_⟩, by simpa using HR1.out, HB1.out⟩
          rw [← h5]; simp only [List.length_append]; omega
        case measure => simp [intOf]; omega
      · have e1 : ((i : Int) != (j : Int)) = true := by simp; omega
        have hlt : i < j := by omega
        clear hij
        go_wp2_with fail
        obtain ⟨h1, h2, h3, h4, h5⟩ := HI.out
        obtain ⟨Y1, Y2, rfl, hl⟩ : ∃ Y1 Y2, Y' = Y1 ++ Y2 ∧ Y2.length = i := ⟨Y'.take (j - i), Y'.drop (j - i), by simp, by rw [List.length_drop]; omega⟩
        rw [List.length_append] at h2
        refine (swapRangeZ cmp g rest len cap pr X' Y1 Y2 po _ B hB (by simpa using HRow.out) (by simpa using h5) hmax (by omega) _ _ _ (by omega) (by omega) (by omega)).mono ?_
        rintro e w1 ⟨rfl, hR1, hB1⟩
        have HF := Lib.hid (And.intro h1 (And.intro h2 (And.intro h3 (And.intro h4 (And.intro h5 hl)))))
        have HR1 := Lib.hid hR1
        have HB1 := Lib.hid (HBel.out.trans hB1)
        clear h1 h2 h3 h4 h5 hl hR1 hB1
        go_wp2
        go_roundw
        case rel =>
          obtain ⟨h1, h2, h3, h4, h5, hl⟩ := HF.out
          refine ⟨i, j - i, pr, Y2, Y1, X' ++ po, rfl, by congr 1; omega, by omega, by omega, by omega, by omega, Lib.hid ⟨hl, by omega, by omega, by rw [h4]; simp, ?_⟩, by simpa using HR1.out, HB1.out⟩
          rw [← h5]; simp only [List.length_append]; omega
        case measure => simp [intOf]; omega
theorem rotateZ (cmp : Value) (g : Nat) (rest : List Value) (len cap : Nat) (pre X Y post : List Pl) (w : World) (B : Nat) (hB : B ≤ g) (hR : Row w g rest (pre ++ (X ++ (Y ++ post)))) (hlen : (pre ++ (X ++ (Y ++ post))).length = len) (hmax : len ≤ 35184372088320) (hX : 0 < X.length) (hY : 0 < Y.length) (a m b : Int) (ha : a = pre.length) (hm : m = (pre.length + X.length : Nat)) (hb : b = (pre.length + X.length + Y.length : Nat)) :
    Calls Tryz.prog 228 #[.slice (some ⟨g, 0, none⟩) len cap, .int .i64 a, .int .i64 m, .int .i64 b, cmp] w fun e w' => e = .returned (.tuple #[]) ∧ Row w' g rest (pre ++ (Y ++ (X ++ post))) ∧ Below B w w' := by
  subst ha hm hb
  exact rotate cmp g rest len cap pre X Y post w B hB hR hlen hmax hX hY _ _ _ rfl rfl rfl
end Go.Proofs.YtlpkcpacfldfaaaGreat
/-
  A region that draws its order, by an invariant over what has come up: one step for each operation, none for each order. Not tied to a program.
-/
namespace Go.Proofs.YtlpkcpacfldfaaaGreat
open Go.RowKit
variable {P : Program} {ops : Array Oper} {Q : Exit → Act → World → Prop} {md : Region.Mode}
theorem left_set {listed : Array Bool} {i : Nat} (h : i < listed.size) (hf : listed.getD i true = false) : (listed.setIfInBounds i true).toList.count false + 1 = listed.toList.count false := by
  have hl : listed.toList[i]'(by simpa using h) = false := by
    simpa [Array.getD, h] using hf
  rw [Array.toList_setIfInBounds, List.count_set (by simpa using h), hl]
  have : 0 < listed.toList.count false := List.count_pos_iff.2 (by rw [← hl]; exact List.getElem_mem _)
  have e1 : ((false == false) = true) := rfl
  have e2 : ¬ ((true == false) = true) := by decide
  rw [if_pos e1, if_neg e2]
  omega
theorem wpAny_inv (Φ : Array Bool → Act → World → Prop)
    (step : ∀ listed a w i, Φ listed a w → i ∈ Region.ready md ops listed → wpOp P ops Q i (Φ (listed.setIfInBounds i true)) a w)
    (done : ∀ listed a w, Φ listed a w → Region.ready md ops listed = [] → Q .normal a w) :
    ∀ (fuel : Nat) (listed : Array Bool) (a : Act) (w : World), listed.size = ops.size → listed.toList.count false ≤ fuel → Φ listed a w → wpAny P md ops Q fuel listed a w
  | 0, listed, a, w, hs, hc, h => by
    have hr : Region.ready md ops listed = [] := by
      rw [List.eq_nil_iff_forall_not_mem]
      intro i hi
      have hm := mem_ready.1 hi
      obtain ⟨hf, o, ho, _⟩ := hm
      have hlt : i < listed.size := by rw [hs]; exact (Array.getElem?_eq_some_iff.1 ho).1
      have := left_set hlt hf
      omega
    exact ⟨hr, done _ _ _ h hr⟩
  | fuel + 1, listed, a, w, hs, hc, h => by
    refine ⟨fun hr => done _ _ _ h hr, fun i hi => ?_⟩
    obtain ⟨hf, o, ho, _⟩ := mem_ready.1 hi
    have hlt : i < listed.size := by rw [hs]; exact (Array.getElem?_eq_some_iff.1 ho).1
    have hls := left_set hlt hf
    exact wpOp_mono (fun a' w' h' => wpAny_inv Φ step done fuel _ a' w' (by simpa using hs) (by omega) h') (step listed a w i h hi)
/-- **the region**: Φ at the start (nothing has come up, one draw), kept by each operation that may come up, and enough for what follows when nothing is left -/
theorem wp_region_inv {id : Nat} {a : Act} {w : World} (hm : P.follows .mixedOrders = true) (Φ : Array Bool → Act → World → Prop)
    (h0 : Φ (Array.replicate ops.size false) a { w with drawn := w.drawn + 1 })
    (step : ∀ listed a w i, Φ listed a w → i ∈ Region.ready .any ops listed → wpOp P ops Q i (Φ (listed.setIfInBounds i true)) a w)
    (done : ∀ listed a w, Φ listed a w → Region.ready .any ops listed = [] → Q .normal a w) : (Code.region id ops true).wp P Q a w :=
  wp_region_any hm (wpAny_inv Φ step done _ _ _ _ (by simp) (by simp) h0)
/-- nothing is left: all have come up, where each waits only for what stands before it -/
theorem all_listed {listed : Array Bool} (hs : listed.size = ops.size) (hback : ∀ i o, ops[i]? = some o → ∀ e ∈ o.after, Region.binds md e = true → e.on < i) (hr : Region.ready md ops listed = []) : ∀ i, i < ops.size → listed.getD i false = true := by
  intro i
  induction i using Nat.strongRecOn with
  | _ i ih =>
    intro hi
    have hl : i < listed.size := by omega
    cases hb : listed.getD i false with
    | true => rfl
    | false =>
      have hm : i ∈ Region.ready md ops listed := by
        refine mem_ready.2 ⟨?_, ops[i], Array.getElem?_eq_getElem hi, fun e he hbnd => ?_⟩
        · simp only [Array.getD, hl, dite_true] at hb ⊢; exact hb
        · have hlt := hback i ops[i] (Array.getElem?_eq_getElem hi) e he hbnd
          exact ih e.on hlt (by omega)
      rw [hr] at hm; cases hm
/-- the frame is a0's but for the slots sl i of the region's operations -/
def FrameOf (ops : Array Oper) (sl : Nat → Nat) (a0 a : Act) : Prop :=
  a.tmps.size = a0.tmps.size ∧ a.defers = a0.defers ∧ ∀ k, (∀ i, i < ops.size → sl i ≠ k) → a.eval (.tmp k) = a0.eval (.tmp k)
/-- each operation waits only for what stands before it: a test that the kernel reckons -/
def backB (ops : Array Oper) : Bool := (List.range ops.size).all fun i => match ops[i]? with
  | some o => o.after.all fun e => !(Region.binds .any e) || decide (e.on < i)
  | none => true
theorem back_of {ops : Array Oper} (h : backB ops = true) : ∀ i o, ops[i]? = some o → ∀ e ∈ o.after, Region.binds .any e = true → e.on < i := by
  intro i o ho e he hb
  unfold backB at h
  rw [List.all_eq_true] at h
  have h1 := h i (List.mem_range.2 (Array.getElem?_eq_some_iff.1 ho).1)
  rw [ho] at h1
  simp only [Array.all_eq_true_iff_forall_mem] at h1
  have h2 := h1 e he
  rw [hb] at h2
  simpa using h2
/-- **a region, operation by operation**: V i says what operation i yields; it is kept when the world grows; each operation is shown once, from what it waits for. -/
theorem wp_region_vals {id : Nat} {a0 : Act} {w0 : World} (hm : P.follows .mixedOrders = true) (sl : Nat → Nat) (V : Nat → Value → World → Prop) (G : World → Prop)
    (hlt : ∀ i, i < ops.size → sl i < a0.tmps.size) (hinj : ∀ i j, i < ops.size → j < ops.size → sl i = sl j → i = j)
    (hback : ∀ i o, ops[i]? = some o → ∀ e ∈ o.after, Region.binds .any e = true → e.on < i)
    (hV : ∀ i v w w', V i v w → Below w.heap.size w w' → V i v w') (hG : ∀ w w', G w → Below w.heap.size w w' → G w')
    (h0 : G { w0 with drawn := w0.drawn + 1 })
    (hop : ∀ i o, ops[i]? = some o → ∀ a w, FrameOf ops sl a0 a → G w → (∀ e ∈ o.after, Region.binds .any e = true → V e.on (a.eval (.tmp (sl e.on))) w) →
      Region.wanted o (yielded ops a.tmps) = true ∧ o.wp P a w (fun a' w' => ∃ v, a' = a.put (some (sl i)) v ∧ V i v w' ∧ Below w.heap.size w w') Q)
    (hdone : ∀ a w, FrameOf ops sl a0 a → G w → (∀ i, i < ops.size → V i (a.eval (.tmp (sl i))) w) → Q .normal a w) : (Code.region id ops true).wp P Q a0 w0 := by
  refine wp_region_inv hm (fun listed a w => listed.size = ops.size ∧ FrameOf ops sl a0 a ∧ G w ∧ ∀ i, i < ops.size → listed.getD i false = true → V i (a.eval (.tmp (sl i))) w) ?_ ?_ ?_
  · refine ⟨by simp, ⟨rfl, rfl, fun _ _ => rfl⟩, h0, fun i hi h => ?_⟩
    simp [Array.getD, hi] at h
  · rintro listed a w i ⟨hs, hF, hg, hv⟩ hi
    obtain ⟨hf, o, ho, hdep⟩ := mem_ready.1 hi
    have hio : i < ops.size := (Array.getElem?_eq_some_iff.1 ho).1
    obtain ⟨hw, hwp⟩ := hop i o ho a w hF hg (fun e he hb => hv e.on (by have := hback i o ho e he hb; omega) (hdep e he hb))
    unfold wpOp
    rw [ho]
    simp only [hw, if_true]
    refine .inl (Oper.wp_mono (fun a' w' h => ?_) hwp)
    obtain ⟨v, rfl, hVi, hB⟩ := h
    have hsi : sl i < a.tmps.size := by rw [hF.1]; exact hlt i hio
    refine ⟨by simpa using hs, ⟨?_, ?_, ?_⟩, hG _ _ hg hB, ?_⟩
    · rw [← hF.1]; simp [Act.put]
    · rw [← hF.2.1]; rfl
    · intro k hk
      rw [Act.eval_put_ne _ _ _ _ (hk i hio)]
      exact hF.2.2 k hk
    · intro j hj hlj
      by_cases hij : i = j
      · subst hij
        rw [Act.eval_put_same _ _ _ hsi]; exact hVi
      · rw [getD_set_ne false hij] at hlj
        rw [Act.eval_put_ne _ _ _ _ (fun e => hij (hinj i j hio hj e))]
        exact hV _ _ _ _ (hv j hj hlj) hB
  · rintro listed a w ⟨hs, hF, hg, hv⟩ hr
    exact hdone a w hF hg (fun i hi => hv i hi (all_listed hs hback hr i hi))
/-- the frame is a0's but for the slots of the region's operations that are no stores -/
def FrameBut (ops : Array Oper) (sl : Nat → Nat) (s1 s2 : Nat) (a0 a : Act) : Prop :=
  a.tmps.size = a0.tmps.size ∧ a.defers = a0.defers ∧ ∀ k, (∀ i, i < ops.size → i ≠ s1 → i ≠ s2 → sl i ≠ k) → a.eval (.tmp k) = a0.eval (.tmp k)
theorem listed_set_of {listed : Array Bool} {i j : Nat} (h : (listed.setIfInBounds i true).getD j false = true) (hij : i ≠ j) : listed.getD j false = true := by
  rwa [getD_set_ne false hij] at h
theorem listed_set_same {listed : Array Bool} {i : Nat} (h : i < listed.size) : (listed.setIfInBounds i true).getD i false = true := by
  simp [Array.getD, h]
theorem listed_set_keep {listed : Array Bool} {i j : Nat} (h : listed.getD j false = true) : (listed.setIfInBounds i true).getD j false = true := by
  by_cases hij : i = j
  · subst hij
    have : i < listed.size := by
      by_cases hl : i < listed.size
      · exact hl
      · simp [Array.getD, hl] at h
    exact listed_set_same this
  · rw [getD_set_ne false hij]; exact h
theorem not_listed {listed : Array Bool} {i : Nat} (hi : i < listed.size) (h : listed.getD i true = false) : ¬ listed.getD i false = true := by
  simp only [Array.getD, hi, dite_true] at h ⊢
  rw [h]; simp
/-- **a region with two stores, the second one behind the first**: each operation is shown once; what the first store waits for runs in the world ahead of it. -/
theorem wp_region_swap {id : Nat} {a0 : Act} {w0 : World} (hm : P.follows .mixedOrders = true) (sl : Nat → Nat) (V : Nat → Value → Prop) (s1 s2 : Nat) (o1 o2 : Oper) (W1 W2 : World)
    (ho1 : ops[s1]? = some o1) (ho2 : ops[s2]? = some o2) (h12 : s1 ≠ s2)
    (hw12 : ∃ e ∈ o2.after, Region.binds .any e = true ∧ e.on = s1)
    (hlt : ∀ i, i < ops.size → i ≠ s1 → i ≠ s2 → sl i < a0.tmps.size) (hinj : ∀ i j, i < ops.size → j < ops.size → i ≠ s1 → i ≠ s2 → j ≠ s1 → j ≠ s2 → sl i = sl j → i = j)
    (hback : ∀ i o, ops[i]? = some o → ∀ e ∈ o.after, Region.binds .any e = true → e.on < i)
    (hop : ∀ i o, ops[i]? = some o → i ≠ s1 → i ≠ s2 → ∀ a w, FrameBut ops sl s1 s2 a0 a → (∀ e ∈ o.after, Region.binds .any e = true → e.on ≠ s1 → e.on ≠ s2 → V e.on (a.eval (.tmp (sl e.on)))) →
      ((∃ e ∈ o1.after, Region.binds .any e = true ∧ e.on = i) → w = { w0 with drawn := w0.drawn + 1 }) →
      Region.wanted o (yielded ops a.tmps) = true ∧ o.wp P a w (fun a' w' => ∃ v, a' = a.put (some (sl i)) v ∧ V i v ∧ w' = w) Q)
    (hop1 : ∀ a, FrameBut ops sl s1 s2 a0 a → (∀ e ∈ o1.after, Region.binds .any e = true → e.on ≠ s1 → e.on ≠ s2 → V e.on (a.eval (.tmp (sl e.on)))) →
      Region.wanted o1 (yielded ops a.tmps) = true ∧ o1.wp P a { w0 with drawn := w0.drawn + 1 } (fun a' w' => a' = a ∧ w' = W1) Q)
    (hop2 : ∀ a, FrameBut ops sl s1 s2 a0 a → (∀ e ∈ o2.after, Region.binds .any e = true → e.on ≠ s1 → e.on ≠ s2 → V e.on (a.eval (.tmp (sl e.on)))) →
      Region.wanted o2 (yielded ops a.tmps) = true ∧ o2.wp P a W1 (fun a' w' => a' = a ∧ w' = W2) Q)
    (hdone : ∀ a, FrameBut ops sl s1 s2 a0 a → (∀ i, i < ops.size → i ≠ s1 → i ≠ s2 → V i (a.eval (.tmp (sl i)))) → Q .normal a W2) : (Code.region id ops true).wp P Q a0 w0 := by
  have l1 : s1 < ops.size := (Array.getElem?_eq_some_iff.1 ho1).1
  have l2 : s2 < ops.size := (Array.getElem?_eq_some_iff.1 ho2).1
  refine wp_region_inv hm (fun listed a w => listed.size = ops.size ∧ FrameBut ops sl s1 s2 a0 a ∧ (∀ i, i < ops.size → i ≠ s1 → i ≠ s2 → listed.getD i false = true → V i (a.eval (.tmp (sl i)))) ∧
      (listed.getD s1 false = true → ∀ e ∈ o1.after, Region.binds .any e = true → listed.getD e.on false = true) ∧
      ((¬ listed.getD s1 false = true ∧ ¬ listed.getD s2 false = true ∧ w = { w0 with drawn := w0.drawn + 1 }) ∨ (listed.getD s1 false = true ∧ ¬ listed.getD s2 false = true ∧ w = W1) ∨ (listed.getD s1 false = true ∧ listed.getD s2 false = true ∧ w = W2))) ?_ ?_ ?_
  · refine ⟨by simp, ⟨rfl, rfl, fun _ _ => rfl⟩, fun i hi _ _ h => ?_, fun h => ?_, .inl ⟨?_, ?_, rfl⟩⟩
    · simp [Array.getD, hi] at h
    · simp [Array.getD, l1] at h
    · simp [Array.getD, l1]
    · simp [Array.getD, l2]
  · rintro listed a w i ⟨hs, hF, hv, hd1, hw⟩ hi
    obtain ⟨hf, o, ho, hdep⟩ := mem_ready.1 hi
    have hio : i < ops.size := (Array.getElem?_eq_some_iff.1 ho).1
    have hnl : ¬ listed.getD i false = true := not_listed (by omega) hf
    have hdeps : ∀ e ∈ o.after, Region.binds .any e = true → e.on ≠ s1 → e.on ≠ s2 → V e.on (a.eval (.tmp (sl e.on))) := fun e he hb n1 n2 => hv e.on (by have := hback i o ho e he hb; omega) n1 n2 (hdep e he hb)
    by_cases i1 : i = s1
    · subst i1
      rw [ho1] at ho; cases ho
      have hw0 : w = { w0 with drawn := w0.drawn + 1 } ∧ ¬ listed.getD s2 false = true := by
        rcases hw with ⟨_, h, h'⟩ | ⟨h, _⟩ | ⟨h, _⟩
        · exact ⟨h', h⟩
        · exact absurd h hnl
        · exact absurd h hnl
      obtain ⟨rfl, hn2⟩ := hw0
      obtain ⟨hw, hwp⟩ := hop1 a hF hdeps
      unfold wpOp
      rw [ho1]
      simp only [hw, if_true]
      refine .inl (Oper.wp_mono (fun a' w' h => ?_) hwp)
      obtain ⟨rfl, rfl⟩ := h
      refine ⟨by simpa using hs, hF, fun j hj j1 j2 hlj => hv j hj j1 j2 (listed_set_of hlj (Ne.symm j1)), fun _ e he hb => listed_set_keep (hdep e he hb), .inr (.inl ⟨listed_set_same (by omega), ?_, rfl⟩)⟩
      intro h
      exact hn2 (listed_set_of h h12)
    · by_cases i2 : i = s2
      · subst i2
        rw [ho2] at ho; cases ho
        obtain ⟨e, he, hb, rfl⟩ := hw12
        have hl1 := hdep e he hb
        have hw0 : w = W1 := by
          rcases hw with ⟨h, _⟩ | ⟨_, _, h⟩ | ⟨_, h, _⟩
          · exact absurd hl1 h
          · exact h
          · exact absurd h hnl
        subst hw0
        obtain ⟨hw, hwp⟩ := hop2 a hF hdeps
        unfold wpOp
        rw [ho2]
        simp only [hw, if_true]
        refine .inl (Oper.wp_mono (fun a' w' h => ?_) hwp)
        obtain ⟨rfl, rfl⟩ := h
        exact ⟨by simpa using hs, hF, fun j hj j1 j2 hlj => hv j hj j1 j2 (listed_set_of hlj (Ne.symm j2)), fun h e' he' hb' => listed_set_keep (hd1 (listed_set_of h (Ne.symm h12)) e' he' hb'), .inr (.inr ⟨listed_set_keep hl1, listed_set_same (by omega), rfl⟩)⟩
      · have hw0 : (∃ e ∈ o1.after, Region.binds .any e = true ∧ e.on = i) → w = { w0 with drawn := w0.drawn + 1 } := by
          rintro ⟨e, he, hb, rfl⟩
          rcases hw with ⟨_, _, h⟩ | ⟨h, _⟩ | ⟨h, _⟩
          · exact h
          · exact absurd (hd1 h e he hb) hnl
          · exact absurd (hd1 h e he hb) hnl
        obtain ⟨hwt, hwp⟩ := hop i o ho i1 i2 a w hF hdeps hw0
        unfold wpOp
        rw [ho]
        simp only [hwt, if_true]
        refine .inl (Oper.wp_mono (fun a' w' h => ?_) hwp)
        obtain ⟨v, rfl, hVi, rfl⟩ := h
        have hsi : sl i < a.tmps.size := by rw [hF.1]; exact hlt i hio i1 i2
        refine ⟨by simpa using hs, ⟨?_, ?_, ?_⟩, ?_, fun h e he hb => listed_set_keep (hd1 (listed_set_of h i1) e he hb), ?_⟩
        · rw [← hF.1]; simp [Act.put]
        · rw [← hF.2.1]; rfl
        · intro k hk
          rw [Act.eval_put_ne _ _ _ _ (hk i hio i1 i2)]
          exact hF.2.2 k hk
        · intro j hj j1 j2 hlj
          by_cases hij : i = j
          · subst hij
            rw [Act.eval_put_same _ _ _ hsi]; exact hVi
          · rw [getD_set_ne false hij] at hlj
            rw [Act.eval_put_ne _ _ _ _ (fun e => hij (hinj i j hio hj i1 i2 j1 j2 e))]
            exact hv j hj j1 j2 hlj
        · rw [getD_set_ne false i1, getD_set_ne false i2]; exact hw
  · rintro listed a w ⟨hs, hF, hv, hd1, hw⟩ hr
    have hall := all_listed hs hback hr
    rcases hw with ⟨h, _⟩ | ⟨_, h, _⟩ | ⟨_, _, rfl⟩
    · exact absurd (hall s1 l1) h
    · exact absurd (hall s2 l2) h
    · exact hdone a hF (fun i hi i1 i2 => hv i hi i1 i2 (hall i hi))
/-- the frame behind: what stood there, with some slots laid anew -/
theorem act_ext {a b : Act} (hs : a.tmps.size = b.tmps.size) (hd : a.defers = b.defers) (h : ∀ k, k < a.tmps.size → a.eval (.tmp k) = b.eval (.tmp k)) : a = b := by
  obtain ⟨at_, ad⟩ := a
  obtain ⟨bt, bd⟩ := b
  simp only at hs hd
  subst hd
  congr 1
  refine Array.ext hs (fun i h1 h2 => ?_)
  have := h i h1
  simp only [Act.eval, Array.getD, h1, h2, dite_true] at this
  exact this
theorem eval_puts (a : Act) (ks : List Nat) : ∀ (b : Act) (k : Nat), a.tmps.size = b.tmps.size → k < b.tmps.size → (ks.foldl (fun b k => b.put (some k) (a.eval (.tmp k))) b).eval (.tmp k) = if k ∈ ks then a.eval (.tmp k) else b.eval (.tmp k) := by
  induction ks with
  | nil => intro b k _ _; simp
  | cons j ks ih =>
    intro b k hs hk
    rw [List.foldl_cons, ih _ k (by simpa [Act.put] using hs) (by simpa [Act.put] using hk)]
    by_cases h : k ∈ ks
    · rw [if_pos h, if_pos (by simp [h])]
    · rw [if_neg h]
      by_cases hj : k = j
      · subst hj
        rw [Act.eval_put_same _ _ _ hk, if_pos (by simp)]
      · rw [Act.eval_put_ne _ _ _ _ (Ne.symm hj), if_neg (by simp [h, hj])]
theorem size_puts (a : Act) (ks : List Nat) : ∀ (b : Act), (ks.foldl (fun b k => b.put (some k) (a.eval (.tmp k))) b).tmps.size = b.tmps.size ∧ (ks.foldl (fun b k => b.put (some k) (a.eval (.tmp k))) b).defers = b.defers := by
  induction ks with
  | nil => intro b; exact ⟨rfl, rfl⟩
  | cons j ks ih =>
    intro b
    rw [List.foldl_cons]
    obtain ⟨h1, h2⟩ := ih (b.put (some j) (a.eval (.tmp j)))
    exact ⟨by rw [h1]; simp [Act.put], by rw [h2]; rfl⟩
theorem FrameBut.eq {sl : Nat → Nat} {s1 s2 : Nat} {a0 a : Act} (hF : FrameBut ops sl s1 s2 a0 a) (ks : List Nat) (hk : ∀ i, i < ops.size → i ≠ s1 → i ≠ s2 → sl i ∈ ks) : a = ks.foldl (fun b k => b.put (some k) (a.eval (.tmp k))) a0 := by
  obtain ⟨h1, h2⟩ := size_puts a ks a0
  refine act_ext (by rw [h1, hF.1]) (by rw [h2, hF.2.1]) (fun k hlt => ?_)
  rw [eval_puts a ks a0 k hF.1 (by rw [← hF.1]; exact hlt)]
  split
  · rfl
  · rename_i hn
    exact hF.2.2 k (fun i hi i1 i2 e => hn (e ▸ hk i hi i1 i2))
theorem FrameOf.eq {sl : Nat → Nat} {a0 a : Act} (hF : FrameOf ops sl a0 a) (ks : List Nat) (hk : ∀ i, i < ops.size → sl i ∈ ks) : a = ks.foldl (fun b k => b.put (some k) (a.eval (.tmp k))) a0 := by
  obtain ⟨h1, h2⟩ := size_puts a ks a0
  refine act_ext (by rw [h1, hF.1]) (by rw [h2, hF.2.1]) (fun k hlt => ?_)
  rw [eval_puts a ks a0 k hF.1 (by rw [← hF.1]; exact hlt)]
  split
  · rfl
  · rename_i hn
    exact hF.2.2 k (fun i hi e => hn (e ▸ hk i hi))
end Go.Proofs.YtlpkcpacfldfaaaGreat
namespace Go.Proofs.YtlpkcpacfldfaaaGreat
open Go.RowKit N
def cmpI (x y : Int) : Int := if x < y then -1 else if y < x then 1 else 0
set_option maxHeartbeats 400000 in
theorem nan48 (x : Int) (w : World) : Calls Tryz.prog 106 #[.int .i64 x] w fun e w' => e = .returned (.bool false) ∧ w = w' := by
  have h : (x != x) = false := by simp
  go_enter Tryz.func106, Tryz.ntmps106
  go_wp2
  go_ret
  exact ⟨ret_bool (by simp), rfl⟩
set_option maxHeartbeats 400000 in
theorem nan49 (x : Int) (w : World) : Calls Tryz.prog 107 #[.int .u8 x] w fun e w' => e = .returned (.bool false) ∧ w = w' := by
  have h : (x != x) = false := by simp
  go_enter Tryz.func107, Tryz.ntmps107
  go_wp2
  go_ret
  exact ⟨ret_bool (by simp), rfl⟩
set_option maxHeartbeats 1000000 in
theorem compare30 (x y : Int) (w : World) : Calls Tryz.prog 54 #[.int .i64 x, .int .i64 y] w fun e w' => e = .returned (.int .i64 (cmpI x y)) ∧ w = w' := by
  by_cases h1 : x < y
  · have HC := Lib.hid (show cmpI x y = -1 by unfold cmpI; rw [if_pos h1])
    go_enter Tryz.func54, Tryz.ntmps54
    go_wp2_with (first | (go_at_call 106; refine (nan48 _ _).mono ?_; rintro e w' ⟨rfl, rfl⟩))
    go_ret
    exact ⟨ret_int (by rw [HC.out]), rfl⟩
  · by_cases h2 : y < x
    · have HC := Lib.hid (show cmpI x y = 1 by unfold cmpI; rw [if_neg h1, if_pos h2])
      go_enter Tryz.func54, Tryz.ntmps54
      go_wp2_with (first | (go_at_call 106; refine (nan48 _ _).mono ?_; rintro e w' ⟨rfl, rfl⟩))
      go_ret
      exact ⟨ret_int (by rw [HC.out]), rfl⟩
    · have HC := Lib.hid (show cmpI x y = 0 by unfold cmpI; rw [if_neg h1, if_neg h2])
      go_enter Tryz.func54, Tryz.ntmps54
      go_wp2_with (first | (go_at_call 106; refine (nan48 _ _).mono ?_; rintro e w' ⟨rfl, rfl⟩))
      go_ret
      exact ⟨ret_int (by rw [HC.out]), rfl⟩
set_option maxHeartbeats 1000000 in
theorem compare31 (x y : Int) (w : World) : Calls Tryz.prog 55 #[.int .u8 x, .int .u8 y] w fun e w' => e = .returned (.int .i64 (cmpI x y)) ∧ w = w' := by
  by_cases h1 : x < y
  · have HC := Lib.hid (show cmpI x y = -1 by unfold cmpI; rw [if_pos h1])
    go_enter Tryz.func55, Tryz.ntmps55
    go_wp2_with (first | (go_at_call 107; refine (nan49 _ _).mono ?_; rintro e w' ⟨rfl, rfl⟩))
    go_ret
    exact ⟨ret_int (by rw [HC.out]), rfl⟩
  · by_cases h2 : y < x
    · have HC := Lib.hid (show cmpI x y = 1 by unfold cmpI; rw [if_neg h1, if_pos h2])
      go_enter Tryz.func55, Tryz.ntmps55
      go_wp2_with (first | (go_at_call 107; refine (nan49 _ _).mono ?_; rintro e w' ⟨rfl, rfl⟩))
      go_ret
      exact ⟨ret_int (by rw [HC.out]), rfl⟩
    · have HC := Lib.hid (show cmpI x y = 0 by unfold cmpI; rw [if_neg h1, if_neg h2])
      go_enter Tryz.func55, Tryz.ntmps55
      go_wp2_with (first | (go_at_call 107; refine (nan49 _ _).mono ?_; rintro e w' ⟨rfl, rfl⟩))
      go_ret
      exact ⟨ret_int (by rw [HC.out]), rfl⟩
def orI (a b : Int) : Int := if a = 0 then b else a
set_option maxHeartbeats 1000000 in
theorem or29 (g : Nat) (a b : Int) (w : World) (h : Has w g (.cells #[.int .i64 a, .int .i64 b] 3)) : Calls Tryz.prog 53 #[.slice (some ⟨g, 0, none⟩) 2 2] w fun e w' => e = .returned (.int .i64 (orI a b)) ∧ w = w' := by
  have c0 : w.cell? ⟨g, 0, none⟩ = some (.int .i64 a) := h.cell 0 rfl
  have c1 : w.cell? ⟨g, 1, none⟩ = some (.int .i64 b) := h.cell 1 rfl
  clear h
  by_cases ha : a = 0
  · have e1 : (a != 0) = false := by simp [ha]
    by_cases hb : b = 0
    · have e2 : (b != 0) = false := by simp [hb]
      have HC := Lib.hid (show orI a b = 0 by unfold orI; rw [if_pos ha, hb])
      clear ha hb
      go_enter Tryz.func53, Tryz.ntmps53
      go_wp2
      refine wp_loop_rounds 3 ?_
      rw [rounds_succ]
      go_wp2
      rw [rounds_succ]
      go_wp2
      rw [rounds_succ]
      go_wp2
      go_ret
      exact ⟨ret_int (by rw [HC.out]), rfl⟩
    · have e2 : (b != 0) = true := by simp [hb]
      have HC := Lib.hid (show orI a b = b by unfold orI; rw [if_pos ha])
      clear ha hb
      go_enter Tryz.func53, Tryz.ntmps53
      go_wp2
      refine wp_loop_rounds 2 ?_
      rw [rounds_succ]
      go_wp2
      rw [rounds_succ]
      go_wp2
      go_ret
      exact ⟨ret_int (by rw [HC.out]), rfl⟩
  · have e1 : (a != 0) = true := by simp [ha]
    have HC := Lib.hid (show orI a b = a by unfold orI; rw [if_neg ha])
    clear ha
    go_enter Tryz.func53, Tryz.ntmps53
    go_wp2
    refine wp_loop_rounds 1 ?_
    rw [rounds_succ]
    go_wp2
    go_ret
    exact ⟨ret_int (by rw [HC.out]), rfl⟩
end Go.Proofs.YtlpkcpacfldfaaaGreat
namespace Go.Proofs.YtlpkcpacfldfaaaGreat
open Go.RowKit N
def cmpP (x y : Pl) : Int := orI (cmpI x.k y.k) (cmpI x.c y.c)
theorem cmpP_lt (x y : Pl) : decide (cmpP x y < 0) = ltP x y := by
  unfold cmpP orI cmpI ltP
  by_cases h1 : x.k < y.k
  · simp [h1]
  · by_cases h2 : y.k < x.k
    · have : ¬ x.k = y.k := by omega
      simp [h1, h2, this]
    · have : x.k = y.k := by omega
      by_cases h3 : x.c < y.c
      · simp [this, h3]
      · by_cases h4 : y.c < x.c <;> simp [this, h3, h4]
def slC (i : Nat) : Nat := if i = 12 then 4 else 5 + i
def VC (b0 b1 : Nat) (x y : Pl) (i : Nat) (v : Value) (w : World) : Prop :=
  match i with
  | 0 => v = .pointer (some ⟨b0, 1, none⟩)
  | 1 => v = .int .i64 x.k
  | 2 => v = .pointer (some ⟨b1, 1, none⟩)
  | 3 => v = .int .i64 y.k
  | 4 => v = .int .i64 (cmpI x.k y.k)
  | 5 => v = .pointer (some ⟨b0, 2, none⟩)
  | 6 => v = .int .u8 x.c
  | 7 => v = .pointer (some ⟨b1, 2, none⟩)
  | 8 => v = .int .u8 y.c
  | 9 => v = .int .i64 (cmpI x.c y.c)
  | 10 => ∃ g, v = .slice (some ⟨g, 0, none⟩) 2 2 ∧ Has w g (.cells #[.int .i64 (cmpI x.k y.k), .int .i64 (cmpI x.c y.c)] 3)
  | _ => v = .int .i64 (cmpP x y)
theorem VC_mono (b0 b1 : Nat) (x y : Pl) : ∀ (i : Nat) (v : Value) (w w' : World), VC b0 b1 x y i v w → Below w.heap.size w w' → VC b0 b1 x y i v w'
  | 10, _, _, _, ⟨g, h1, h2⟩, hb => ⟨g, h1, h2.to hb⟩
  | 0, _, _, _, h, _ => h
  | 1, _, _, _, h, _ => h
  | 2, _, _, _, h, _ => h
  | 3, _, _, _, h, _ => h
  | 4, _, _, _, h, _ => h
  | 5, _, _, _, h, _ => h
  | 6, _, _, _, h, _ => h
  | 7, _, _, _, h, _ => h
  | 8, _, _, _, h, _ => h
  | 9, _, _, _, h, _ => h
  | _ + 11, _, _, _, h, _ => h
set_option maxRecDepth 20000 in
set_option maxHeartbeats 4000000 in
theorem cmp28 (x y : Pl) (w : World) : Calls Tryz.prog 52 #[.agg #[.int .i32 x.r, .int .i64 x.k, .int .u8 x.c], .agg #[.int .i32 y.r, .int .i64 y.k, .int .u8 y.c]] w fun e w' => e = .returned (.int .i64 (cmpP x y)) ∧ Below w.heap.size w w' := by
  go_enter Tryz.func52, Tryz.ntmps52
  go_wp2
  have h0 := (Has.new w (.cells #[.int .i32 x.r, .int .i64 x.k, .int .u8 x.c] 77)).alloc (.cells #[.int .i32 y.r, .int .i64 y.k, .int .u8 y.c] 77)
  have h1 := Has.new (w.alloc (.cells #[.int .i32 x.r, .int .i64 x.k, .int .u8 x.c] 77)) (.cells #[.int .i32 y.r, .int .i64 y.k, .int .u8 y.c] 77)
  rw [World.size_alloc] at h1
  have hb : Below w.heap.size w ((w.alloc (.cells #[.int .i32 x.r, .int .i64 x.k, .int .u8 x.c] 77)).alloc (.cells #[.int .i32 y.r, .int .i64 y.k, .int .u8 y.c] 77)) := (bnew w _).alloc (by simp) _
  refine wp_region_vals (by kernel_rfl) slC (VC w.heap.size (w.heap.size + 1) x y) (fun w' => Below w.heap.size w w' ∧ Has w' w.heap.size (.cells #[.int .i32 x.r, .int .i64 x.k, .int .u8 x.c] 77) ∧ Has w' (w.heap.size + 1) (.cells #[.int .i32 y.r, .int .i64 y.k, .int .u8 y.c] 77)) ?hlt ?hinj ?hback (VC_mono _ _ _ _) (fun _ _ h h' => ⟨h.1.trans (h'.mono h.1.size), h.2.1.to h', h.2.2.to h'⟩) ⟨hb.drew, h0, h1⟩ ?hop ?hdone
  case hlt => intro i hi; simp only [List.size_toArray, List.length_cons, List.length_nil] at hi ⊢; unfold slC; split <;> omega
  case hinj => intro i j hi hj; simp only [List.size_toArray, List.length_cons, List.length_nil] at hi hj; unfold slC; split <;> split <;> omega
  case hback => exact back_of (by decide +kernel)
  case hop =>
    intro i o ho a w' hF hg hd
    obtain ⟨_, g0, g1⟩ := hg
    have c1 : w'.cell? ⟨w.heap.size, 1, none⟩ = some (.int .i64 x.k) := g0.cell 1 rfl
    have c2 : w'.cell? ⟨w.heap.size, 2, none⟩ = some (.int .u8 x.c) := g0.cell 2 rfl
    have d1 : w'.cell? ⟨w.heap.size + 1, 1, none⟩ = some (.int .i64 y.k) := g1.cell 1 rfl
    have d2 : w'.cell? ⟨w.heap.size + 1, 2, none⟩ = some (.int .u8 y.c) := g1.cell 2 rfl
    have hi : i < 13 := (Array.getElem?_eq_some_iff.1 ho).1
    have hcase : i = 0 ∨ i = 1 ∨ i = 2 ∨ i = 3 ∨ i = 4 ∨ i = 5 ∨ i = 6 ∨ i = 7 ∨ i = 8 ∨ i = 9 ∨ i = 10 ∨ i = 11 ∨ i = 12 := by omega
    have h2 : a.eval (.tmp 2) = .pointer (some ⟨w.heap.size, 0, none⟩) := (hF.2.2 2 (fun i _ => by unfold slC; split <;> omega)).trans rfl
    have h3 : a.eval (.tmp 3) = .pointer (some ⟨w.heap.size + 1, 0, none⟩) := (hF.2.2 3 (fun i _ => by unfold slC; split <;> omega)).trans rfl
    have HD0 := Lib.hid hd
    clear hd hF g0 g1
    rcases hcase with rfl | rfl | rfl | rfl | rfl | rfl | rfl | rfl | rfl | rfl | rfl | rfl | rfl
    all_goals
      simp only [List.getElem?_toArray, List.getElem?_cons_zero, List.getElem?_cons_succ, Option.some.injEq] at ho
      subst ho
      have hd := HD0.out
      simp [Region.binds, slC, VC] at hd
      refine ⟨rfl, ?_⟩
      unfold Oper.wp
    · simp [execOp, h2]; simp [go_sem]; exact ⟨_, rfl, rfl, Below.refl _ _⟩
    · simp [execOp, hd]; simp [go_sem, c1]; exact ⟨_, rfl, rfl, Below.refl _ _⟩
    · simp [execOp, h3]; simp [go_sem]; exact ⟨_, rfl, rfl, Below.refl _ _⟩
    · simp [execOp, hd]; simp [go_sem, d1]; exact ⟨_, rfl, rfl, Below.refl _ _⟩
    · simp [execOp, resolve, invoke, hd]; simp [go_sem]; refine (compare30 _ _ _).mono ?_; rintro e w3 ⟨rfl, rfl⟩; exact ⟨_, rfl, rfl, Below.refl _ _⟩
    · simp [execOp, h2]; simp [go_sem]; exact ⟨_, rfl, rfl, Below.refl _ _⟩
    · simp [execOp, hd]; simp [go_sem, c2]; exact ⟨_, rfl, rfl, Below.refl _ _⟩
    · simp [execOp, h3]; simp [go_sem]; exact ⟨_, rfl, rfl, Below.refl _ _⟩
    · simp [execOp, hd]; simp [go_sem, d2]; exact ⟨_, rfl, rfl, Below.refl _ _⟩
    · simp [execOp, resolve, invoke, hd]; simp [go_sem]; refine (compare31 _ _ _).mono ?_; rintro e w3 ⟨rfl, rfl⟩; exact ⟨_, rfl, rfl, Below.refl _ _⟩
    · simp [execOp, hd]; simp [go_sem]; exact ⟨_, rfl, ⟨_, rfl, Has.new _ _⟩, bnew _ _⟩
    · obtain ⟨g, hg1, hg2⟩ := HD0.out ⟨10, .data⟩ (by simp) rfl
      replace hg1 : a.eval (.tmp 15) = .slice (some ⟨g, 0, none⟩) 2 2 := hg1
      simp [execOp, resolve, invoke, hg1]; simp [go_sem]; refine (or29 g _ _ _ hg2).mono ?_; rintro e w3 ⟨rfl, rfl⟩; exact ⟨_, rfl, rfl, Below.refl _ _⟩
    · simp [execOp, hd]; exact ⟨_, rfl, rfl, Below.refl _ _⟩
  case hdone =>
    intro a w' hF hg hv
    have h4 : a.eval (.tmp 4) = .int .i64 (cmpP x y) := hv 12 (by decide)
    simp only [Exit.then]
    rename_i K' hK'
    apply hK'
    go_wp2
    (try simp only [Exit.inBlock, Exit.then])
    refine bodyPost_ret (results_tmp rfl _ _ _) hF.2.1 ?_
    exact ⟨congrArg _ h4, hg.1⟩
end Go.Proofs.YtlpkcpacfldfaaaGreat
namespace Go.Proofs.YtlpkcpacfldfaaaGreat
open Go.RowKit N
/-- a world behind w: what lay in w lies there still -/
structure Later (w : World) where
  v : World
  h : Below w.heap.size w v
instance laterInh (w : World) : Inhabited (Later w) := ⟨⟨w, Below.refl _ w⟩⟩
theorem wp_region_quiet_later {P : Program} {id : Nat} {Q : Exit → Act → World → Prop} {a : Act} {w : World} {l : List Oper} (hm : P.follows .mixedOrders = true) (hB : Region.lexB .any l.toArray = true)
    (h : wpQuiet P l.toArray (fun w' => ∃ p : Later w, w' = p.v) (fun a' => ∀ w', (∃ p : Later w, w' = p.v) → Q .normal a' w') l a) : (Code.region id l.toArray true).wp P Q a w :=
  wp_region_quiet (C := fun w' => ∃ p : Later w, w' = p.v) hm hB ⟨⟨w.drew, (Below.refl _ w).drew⟩, rfl⟩ (by simpa using h)
theorem Calls.later_of {P : Program} {f : FuncId} {args : Array Value} {w : World} {p : Later w} {v : Value}
    (h : Calls P f args p.v fun e w' => e = .returned v ∧ Below p.v.heap.size p.v w') : Calls P f args p.v fun e w'' => e = .returned v ∧ ∃ q : Later w, w'' = q.v :=
  h.mono fun _ _ ⟨he, hb⟩ => ⟨he, ⟨_, p.h.trans (hb.mono p.h.size)⟩, rfl⟩
theorem Later.c {w : World} (p : Later w) {g i : Nat} {v : Value} (h : w.cell? ⟨g, i, none⟩ = some v) (hg : g < w.heap.size) : p.v.cell? ⟨g, i, none⟩ = some v := (p.h.cell (p := ⟨g, i, none⟩) hg).trans h
theorem Row.lt {w : World} {g : Nat} {rest : List Value} {D : List Pl} (h : Row w g rest D) : g < w.heap.size := Has.lt h
abbrev CMP : Value := .func (.func 52) #[] #[]
abbrev agP (x : Pl) : Value := .agg #[.int .i32 x.r, .int .i64 x.k, .int .u8 x.c]
set_option maxRecDepth 20000 in
set_option maxHeartbeats 8000000 in
theorem insertion (g : Nat) (rest : List Value) (len cap : Nat) (pre L post : List Pl) (w : World) (B : Nat) (hB : B ≤ g) (hR : Row w g rest (pre ++ (L ++ post))) (hlen : (pre ++ (L ++ post)).length = len) (hmax : len ≤ 35184372088320) (a b : Nat) (ha : pre.length = a) (hb : a + L.length = b) :
    Calls Tryz.prog 183 #[.slice (some ⟨g, 0, none⟩) len cap, .int .i64 a, .int .i64 b, CMP] w fun e w' => e = .returned (.tuple #[]) ∧ Row w' g rest (pre ++ (SM.S ltP L ++ post)) ∧ Below B w w' := by
  have hlen' : pre.length + L.length + post.length = len := by rw [← hlen]; simp; omega
  have b1 : b ≤ len := by omega
  have b2 : a ≤ b := by omega
  have HI0 : Hid (L.length = b - a ∧ pre.length = a ∧ pre.length + L.length + post.length = len) := Lib.hid ⟨by omega, ha, hlen'⟩
  have HR0 := Lib.hid hR
  have hm0 : Tryz.prog.follows .mixedOrders = true := by kernel_rfl
  clear hlen hlen' hR ha hb
  unfold CMP
  go_enter Tryz.func183, Tryz.ntmps183
  go_wp2
  go_loopw [8] (fun iv wr => ∃ (i : Nat) (La Lb : List Pl), iv = .int .i64 i ∧ a < i ∧ i ≤ b + 1 ∧ Hid (L = La ++ Lb ∧ (La.length + a = i ∨ (L = [] ∧ La = []))) ∧ Row wr g rest (pre ++ (SM.S ltP La ++ (Lb ++ post))) ∧ Below B w wr) (fun i _ => b + 1 - (intOf i).toNat)
  case atStart =>
    obtain ⟨h1, h2, h3⟩ := HI0.out
    cases hL : L with
    | nil =>
      exact ⟨a + 1, [], [], by go_num, by omega, by omega, Lib.hid ⟨rfl, .inr ⟨rfl, rfl⟩⟩, by rw [SM.S_nil]; simpa [hL] using HR0.out, Below.refl _ _⟩
    | cons x l =>
      refine ⟨a + 1, [x], l, by go_num, by omega, by omega, Lib.hid ⟨rfl, .inl (by simp; omega)⟩, ?_, Below.refl _ _⟩
      have e : SM.S ltP [x] = [x] := by
        show SM.mrg ltP [] [x] = [x]
        rw [SM.mrg_nil_l]
      rw [e]
      have := HR0.out
      rw [hL] at this
      simpa using this
  case round =>
    obtain ⟨i, La, Lb, rfl, hai, hib, HI, hRow, hBel⟩ := hrel
    have HRow := Lib.hid hRow
    have HBel := Lib.hid hBel
    clear hRow hBel
    by_cases hlt : i < b
    · have hltz : (i : Int) < (b : Int) := by omega
      obtain ⟨x, Lb, rfl, HJ⟩ : ∃ x l, Lb = x :: l ∧ Hid (La.length + a = i ∧ L = La ++ x :: l ∧ (SM.S ltP La).length + a = i ∧ pre.length = a ∧ pre.length + (SM.S ltP La).length + 1 + l.length + post.length = len) := by
        obtain ⟨h1, h2⟩ := HI.out
        obtain ⟨h3, h4, h5⟩ := HI0.out
        have hS := SM.S_length ltP La
        cases Lb with
        | nil =>
          rw [List.append_nil] at h1
          rcases h2 with h2 | ⟨h2, _⟩
          · rw [← h1] at h2; omega
          · rw [h2] at h3; simp at h3; omega
        | cons x l =>
          have h6 : La.length + a = i := by
            rcases h2 with h2 | ⟨h2, h2'⟩
            · exact h2
            · rw [h2] at h3; simp at h3; omega
          rw [h1] at h5
          simp only [List.length_append, List.length_cons] at h5
          exact ⟨x, l, rfl, Lib.hid ⟨h6, h1, by omega, h4, by omega⟩⟩
      go_wp2
      go_loopw [9] (fun jv wr2 => ∃ (j : Nat) (A Bs : List Pl), jv = .int .i64 j ∧ a ≤ j ∧ j ≤ i ∧ Hid (SM.S ltP La = A ++ Bs ∧ A.length + a = j ∧ (∀ y ∈ Bs, ltP x y = true)) ∧ Row wr2 g rest ((pre ++ A) ++ x :: (Bs ++ (Lb ++ post))) ∧ Below B w wr2) (fun j _ => (intOf j).toNat)
      case atStart => exact ⟨i, SM.S ltP La, [], rfl, by omega, Nat.le_refl _, Lib.hid ⟨by simp, HJ.out.2.2.1, by simp⟩, by simpa using HRow.out, HBel.out⟩
      case round =>
        obtain ⟨j, A, Bs, rfl, haj, hji, HA, hRow2, hBel2⟩ := hrel
        -- what holds when the inner loop ends
        have out : (∀ y ∈ A, ltP x y = false) → Hid (SM.S ltP (La ++ [x]) = A ++ x :: Bs) := fun h => Lib.hid (by
          rw [SM.S_snoc, HA.out.1]; exact SM.mrg_one h HA.out.2.2)
        have OUT := Lib.hid out
        clear out
        by_cases hja : a < j
        · have hjaz : decide ((j : Int) > (a : Int)) = true := decide_eq_true (by omega)
          have hjaz2 : (a : Int) < (j : Int) := by omega
          obtain ⟨A', y, rfl⟩ : ∃ A' y, A = A' ++ [y] := by
            have hne : A ≠ [] := by intro e; have := HA.out.2.1; rw [e] at this; simp at this; omega
            exact ⟨A.dropLast, A.getLast hne, (List.dropLast_concat_getLast hne).symm⟩
          obtain ⟨jp, rfl⟩ : ∃ jp, j = jp + 1 := ⟨j - 1, by omega⟩
          have hPl : (pre ++ A').length = jp := by have h1 := HA.out.2.1; have h2 := HJ.out.2.2.2.1; simp only [List.length_append, List.length_singleton] at h1 ⊢; omega
          have hrw : (pre ++ (A' ++ [y])) ++ x :: (Bs ++ (Lb ++ post)) = (pre ++ A') ++ y :: ([] ++ x :: (Bs ++ (Lb ++ post))) := by simp
          rw [hrw] at hRow2
          have gy := get_mid (pre ++ A') ([] ++ x :: (Bs ++ (Lb ++ post))) y
          have gx := get_two (pre ++ A') [] (Bs ++ (Lb ++ post)) y x
          rw [hPl] at gy
          simp only [List.length_nil, Nat.add_zero] at gx
          rw [hPl] at gx
          have hg0 := hRow2.lt
          have x0 := hRow2.c0 gx
          have x1 := hRow2.c1 gx
          have x2 := hRow2.c2 gx
          have y0 := hRow2.c0 gy
          have y1 := hRow2.c1 gy
          have y2 := hRow2.c2 gy
          have HBel2 := Lib.hid hBel2
          have HRow2 := Lib.hid hRow2
          have HPl := Lib.hid hPl
          have hjl : jp + 1 < len := by omega
          have wj : IntKind.i64.wrap ((jp : Int) + 1 - 1) = (jp : Int) := by rw [show (jp : Int) + 1 - 1 = (jp : Int) by omega]; exact IntWalk.i64_in _ (by omega)
          have wj0 : IntKind.i64.wrap (jp : Int) = (jp : Int) := IntWalk.i64_in _ (by omega)
          have q0 : (a : Int) < (jp : Int) + 1 := by omega
          have q0' : decide ((a : Int) < (jp : Int) + 1) = true := decide_eq_true q0
          have q1 : (jp : Int) + 1 < (len : Int) := by omega
          have q2 : (jp : Int) < (len : Int) := by omega
          have q3 : (0 : Int) ≤ (jp : Int) + 1 := by omega
          have q4 : ((jp : Int) + 1).toNat = jp + 1 := by omega
          clear hrw gx gy hRow2 hBel2 hPl
          have k0 : ∀ p : Later wr, p.v.cell? ⟨g, (jp + 1) * 3, none⟩ = some (.int .i32 x.r) := fun p => p.c x0 hg0
          have k1 : ∀ p : Later wr, p.v.cell? ⟨g, (jp + 1) * 3 + 1, none⟩ = some (.int .i64 x.k) := fun p => p.c x1 hg0
          have k2 : ∀ p : Later wr, p.v.cell? ⟨g, (jp + 1) * 3 + 2, none⟩ = some (.int .u8 x.c) := fun p => p.c x2 hg0
          have l0 : ∀ p : Later wr, p.v.cell? ⟨g, jp * 3, none⟩ = some (.int .i32 y.r) := fun p => p.c y0 hg0
          have l1 : ∀ p : Later wr, p.v.cell? ⟨g, jp * 3 + 1, none⟩ = some (.int .i64 y.k) := fun p => p.c y1 hg0
          have l2 : ∀ p : Later wr, p.v.cell? ⟨g, jp * 3 + 2, none⟩ = some (.int .u8 y.c) := fun p => p.c y2 hg0
          clear x0 x1 x2 y0 y1 y2
          by_cases hc : ltP x y = true
          · have hcz : decide (cmpP x y < 0) = true := by rw [cmpP_lt, hc]
            have HC := Lib.hid hc
            have hcz2 : cmpP x y < 0 := of_decide_eq_true hcz
            clear hc
            go_wp2_with fail
            refine wp_region_quiet_later (by assumption) (by kernel_rfl) ?_
            repeat (quiet_step ((go_at_call 52; exact Calls.later_of (cmp28 x y _))))
            refine wpQuiet_nil ?_
            rintro _ ⟨p, rfl⟩
            have hRp : Row p.v g rest ((pre ++ A') ++ y :: ([] ++ x :: (Bs ++ (Lb ++ post)))) := HRow2.out.to p.h
            have HRp := Lib.hid hRp
            have HBp := Lib.hid (HBel2.out.trans (p.h.mono (by have := HBel2.out.size; exact Nat.le_trans hB (Nat.le_of_lt hg0))))
            clear hRp
            have hgp : g < p.v.heap.size := Nat.lt_of_lt_of_le hg0 p.h.size
            have fx0 := HRp.out.f ((jp + 1) * 3)
            have fx1 := HRp.out.f ((jp + 1) * 3 + 1)
            have fx2 := HRp.out.f ((jp + 1) * 3 + 2)
            have fy0 := HRp.out.f (jp * 3)
            have fy1 := HRp.out.f (jp * 3 + 1)
            have fy2 := HRp.out.f (jp * 3 + 2)
            have x0 := k0 p
            have x1 := k1 p
            have x2 := k2 p
            have y0 := l0 p
            have y1 := l1 p
            have y2 := l2 p
            clear k0 k1 k2 l0 l1 l2
            obtain ⟨wq, hwq⟩ : ∃ wq, wq = p.v := ⟨_, rfl⟩
            rw [← hwq] at HRp HBp hgp fx0 fx1 fx2 fy0 fy1 fy2 x0 x1 x2 y0 y1 y2
            simp only [← hwq]
            clear hwq
            have z0 : ((((wq.setCell ⟨g, (jp + 1) * 3, none⟩ (.int .i32 y.r)).setCell ⟨g, (jp + 1) * 3 + 1, none⟩ (.int .i64 y.k)).setCell ⟨g, (jp + 1) * 3 + 2, none⟩ (.int .u8 y.c)).drew).cell? ⟨g, jp * 3, none⟩ = some (.int .i32 y.r) := (cell_drew _ _).trans <| far3 y0 (by omega) (by omega) (by omega)
            have z1 : (((((wq.setCell ⟨g, (jp + 1) * 3, none⟩ (.int .i32 y.r)).setCell ⟨g, (jp + 1) * 3 + 1, none⟩ (.int .i64 y.k)).setCell ⟨g, (jp + 1) * 3 + 2, none⟩ (.int .u8 y.c)).setCell ⟨g, jp * 3, none⟩ (.int .i32 x.r)).drew).cell? ⟨g, jp * 3 + 1, none⟩ = some (.int .i64 y.k) := (cell_drew _ _).trans <| far1 (far3 y1 (by omega) (by omega) (by omega)) (by omega)
            have z2 : ((((((wq.setCell ⟨g, (jp + 1) * 3, none⟩ (.int .i32 y.r)).setCell ⟨g, (jp + 1) * 3 + 1, none⟩ (.int .i64 y.k)).setCell ⟨g, (jp + 1) * 3 + 2, none⟩ (.int .u8 y.c)).setCell ⟨g, jp * 3, none⟩ (.int .i32 x.r)).setCell ⟨g, jp * 3 + 1, none⟩ (.int .i64 x.k)).drew).cell? ⟨g, jp * 3 + 2, none⟩ = some (.int .u8 y.c) := (cell_drew _ _).trans <| far1 (far1 (far3 y2 (by omega) (by omega) (by omega)) (by omega)) (by omega)
            go_wp2_with fail
            go_region
            all_goals go_wp2
            go_roundw
            case rel =>
              have hsw := (HRp.out.swap (i := jp + 1) (j := jp) (by have := HPl.out; simp only [List.length_append, List.length_cons, List.length_nil] at this ⊢; omega) (by have := HPl.out; simp only [List.length_append, List.length_cons, List.length_nil] at this ⊢; omega) x y).drew
              have e2 : ((((pre ++ A') ++ y :: ([] ++ x :: (Bs ++ (Lb ++ post)))).set (jp + 1) y).set jp x) = (pre ++ A') ++ x :: ((y :: Bs) ++ (Lb ++ post)) := by
                have e3 := two_set (pre ++ A') [] (Bs ++ (Lb ++ post)) y x
                rw [HPl.out, List.length_nil, Nat.add_zero] at e3
                rw [List.set_comm _ _ (by omega), e3]
                rfl
              rw [e2] at hsw
              obtain ⟨h1, h2, h3⟩ := HA.out
              refine ⟨jp, A', y :: Bs, by go_num, by omega, by omega, Lib.hid ⟨by rw [h1]; simp, by simp only [List.length_append, List.length_singleton] at h2; omega, ?_⟩, hsw, (bel_set6 HBp.out hB _ _ _ _ _ _ _ _ _ _ _ _).drew⟩
              intro z hz
              rcases List.mem_cons.1 hz with rfl | hz
              · exact HC.out
              · exact h3 z hz
            case measure => simp [intOf]
          · have hc' : ltP x y = false := by simpa using hc
            have hcz : decide (cmpP x y < 0) = false := by rw [cmpP_lt, hc']
            have HC := Lib.hid hc'
            have hcz2 : ¬ cmpP x y < 0 := of_decide_eq_false hcz
            clear hc hc'
            go_wp2_with fail
            refine wp_region_quiet_later (by assumption) (by kernel_rfl) ?_
            repeat (quiet_step ((go_at_call 52; exact Calls.later_of (cmp28 x y _))))
            refine wpQuiet_nil ?_
            rintro _ ⟨p, rfl⟩
            have HRp := Lib.hid (HRow2.out.to p.h)
            have HBp := Lib.hid (HBel2.out.trans (p.h.mono (by have := HBel2.out.size; exact Nat.le_trans hB (Nat.le_of_lt hg0))))
            clear k0 k1 k2 l0 l1 l2
            go_wp2
            go_roundw
            case rel =>
              obtain ⟨h1, h2, h3⟩ := HA.out
              have hs := SM.S_srt ltP_ord La
              rw [h1, List.append_assoc] at hs
              have hpair := (List.pairwise_append.1 hs).2.2
              have hS := (OUT.out (fun z hz => by
                rcases List.mem_append.1 hz with hz | hz
                · exact ltP_ord.trans _ _ _ (hpair z hz y (by simp)) HC.out
                · simp at hz; rw [hz]; exact HC.out)).out
              refine ⟨i + 1, La ++ [x], Lb, by go_num, by omega, by omega, Lib.hid ⟨by rw [HJ.out.2.1]; simp, .inl (by have := HJ.out.1; simp; omega)⟩, ?_, HBp.out⟩
              rw [hS]
              have := HRp.out
              simpa using this
            case measure => simp [intOf]; omega
        · obtain rfl : j = a := by omega
          clear hja
          have hjaz3 : decide ((j : Int) < (j : Int)) = false := decide_eq_false (by omega)
          have HRow2 := Lib.hid hRow2
          have HBel2 := Lib.hid hBel2
          clear hRow2 hBel2
          go_wp2_with fail
          go_quiet (fail)
          have HRp := Lib.hid (show Row (wr.drewN nq) g rest _ from HRow2.out)
          have HBp := Lib.hid (below_dn HBel2.out nq)
          go_wp2
          go_roundw
          case rel =>
            obtain ⟨h1, h2, h3⟩ := HA.out
            have hA0 : A = [] := List.eq_nil_of_length_eq_zero (by omega)
            have hS := (OUT.out (fun z hz => by rw [hA0] at hz; cases hz)).out
            refine ⟨i + 1, La ++ [x], Lb, by go_num, by omega, by omega, Lib.hid ⟨by rw [HJ.out.2.1]; simp, .inl (by have := HJ.out.1; simp; omega)⟩, ?_, HBp.out⟩
            rw [hS]
            have := HRp.out
            simpa using this
          case measure => simp [intOf]; omega
    · have hltz : ¬ (i : Int) < (b : Int) := by omega
      have HE : Hid (Lb = [] ∧ L = La) := Lib.hid (by
        obtain ⟨h1, h2⟩ := HI.out
        obtain ⟨h3, h4, h5⟩ := HI0.out
        have hl : Lb.length = 0 := by
          rw [h1, List.length_append] at h3
          rcases h2 with h2 | ⟨h2, h2'⟩
          · omega
          · have h6 : (La ++ Lb).length = 0 := by rw [← h1, h2]; rfl
            rw [List.length_append] at h6; omega
        have := List.eq_nil_of_length_eq_zero hl
        exact ⟨this, by rw [h1, this]; simp⟩)
      go_wp2
      go_end0
      refine ⟨rfl, ?_, HBel.out⟩
      have := HRow.out
      rw [HE.out.1, List.nil_append, ← HE.out.2] at this
      exact this
end Go.Proofs.YtlpkcpacfldfaaaGreat

