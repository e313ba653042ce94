import Derived.Test.YtbclodbneonipaaGreatNMM
import Derived.Test.YtbclodbneonipaaGreatTEM
import Derived.RegionTactic
import Derived.BigRegion
import Derived.Maps.AppendAt
namespace Go.Proofs.YtbclodbneonipaaGreat
open Go.RowKit N
theorem ret_ib {k : IntKind} {a b : Int} {x y : Bool} (h : a = b) (h2 : x = y) : Ending.returned (.tuple #[.int k a, .bool x]) = Ending.returned (.tuple #[.int k b, .bool y]) := by rw [h, h2]
set_option maxHeartbeats 400000 in
theorem issyl_any (r : Int) (w : World) : Calls Tryz.prog 83 #[.int .i32 r] w fun e w' => e = .returned (.bool (syl r)) ∧ w = w' := by
  have H : Hid (syl r = (decide (44032 ≤ r) && decide (r ≤ 55203))) := Lib.hid rfl
  by_cases h0 : 44032 ≤ r
  · by_cases h1 : r ≤ 55203
    · go_enter Tryz.func83, Tryz.ntmps83
      go_wp2
      go_ret
      exact ⟨ret_bool (by rw [H.out]; simp [h0, h1]), rfl⟩
    · go_enter Tryz.func83, Tryz.ntmps83
      go_wp2
      go_ret
      exact ⟨ret_bool (by rw [H.out]; simp [h1]), rfl⟩
  · go_enter Tryz.func83, Tryz.ntmps83
    go_wp2
    go_ret
    exact ⟨ret_bool (by rw [H.out]; simp; omega), rfl⟩
theorem issyl_is (r : Int) (b : Bool) (h : syl r = b) (w : World) : Calls Tryz.prog 83 #[.int .i32 r] w fun e w' => e = .returned (.bool b) ∧ w = w' := by rw [← h]; exact issyl_any r w
set_option maxHeartbeats 400000 in
theorem within_any (a n : Int) (w : World) : Calls Tryz.prog 109 #[.int .i32 a, .int .i32 n] w fun e w' => e = .returned (.bool (decide (0 ≤ a ∧ a < n))) ∧ w = w' := by
  by_cases h0 : 0 ≤ a
  · by_cases h1 : a < n
    · have H : Hid (decide (0 ≤ a ∧ a < n) = true) := Lib.hid (decide_eq_true ⟨h0, h1⟩)
      go_enter Tryz.func109, Tryz.ntmps109
      go_wp2
      go_ret
      exact ⟨ret_bool (by rw [H.out]), rfl⟩
    · have H : Hid (decide (0 ≤ a ∧ a < n) = false) := Lib.hid (decide_eq_false (by omega))
      go_enter Tryz.func109, Tryz.ntmps109
      go_wp2
      go_ret
      exact ⟨ret_bool (by simp; omega), rfl⟩
  · have H : Hid (decide (0 ≤ a ∧ a < n) = false) := Lib.hid (decide_eq_false (by omega))
    go_enter Tryz.func109, Tryz.ntmps109
    go_wp2
    go_ret
    exact ⟨ret_bool (by simp; omega), rfl⟩
theorem within_is (a n : Int) (b : Bool) (h : decide (0 ≤ a ∧ a < n) = b) (w : World) : Calls Tryz.prog 109 #[.int .i32 a, .int .i32 n] w fun e w' => e = .returned (.bool b) ∧ w = w' := by rw [← h]; exact within_any a n w
theorem w32 (a : Int) (k : Int) (ha : -2147483648 ≤ a) (hb : a ≤ 2147483647) (hk : 0 ≤ k) (hk2 : k ≤ 5000) (m : Int) (hm0 : 0 ≤ m) (hm : m ≤ 100) : decide (0 ≤ wrap32 (a - k) ∧ wrap32 (a - k) < m) = decide (k ≤ a ∧ a < k + m) := by
  have e : wrap32 (a - k) = a - k ∨ (wrap32 (a - k) = a - k + 4294967296 ∧ a - k < -2147483648) := by
    unfold wrap32; omega
  rcases e with e | ⟨e, h⟩ <;> rw [e] <;> congr 1 <;> apply propext <;> omega
def HangOut (a b : Int) (e : Ending) : Prop := e = .returned (.tuple #[.int .i32 ((hang a b).getD 0), .bool (hang a b).isSome])
theorem hang_a {a b : Int} (h : 4352 ≤ a ∧ a < 4371 ∧ 4449 ≤ b ∧ b < 4470) : hang a b = some (44032 + ((a - 4352) * 21 + (b - 4449)) * 28) := by unfold hang; rw [if_pos h]
theorem hang_b {a b : Int} (h : ¬ (4352 ≤ a ∧ a < 4371 ∧ 4449 ≤ b ∧ b < 4470)) (h2 : syl a = true ∧ (a - 44032) % 28 = 0 ∧ 4519 < b ∧ b < 4547) : hang a b = some (a + (b - 4519)) := by unfold hang; rw [if_neg h, if_pos h2]
theorem hang_c {a b : Int} (h : ¬ (4352 ≤ a ∧ a < 4371 ∧ 4449 ≤ b ∧ b < 4470)) (h2 : ¬ (syl a = true ∧ (a - 44032) % 28 = 0 ∧ 4519 < b ∧ b < 4547)) : hang a b = none := by unfold hang; rw [if_neg h, if_neg h2]
set_option maxHeartbeats 2000000 in
theorem syllable_a (a b : Int) (h1 : 4352 ≤ a) (h2 : a < 4371) (h3 : 4449 ≤ b) (h4 : b < 4470) (w : World) : Calls Tryz.prog 89 #[.int .i32 a, .int .i32 b] w fun e w' => HangOut a b e ∧ w = w' := by
  have HH := Lib.hid (hang_a ⟨h1, h2, h3, h4⟩)
  unfold HangOut
  go_enter Tryz.func89, Tryz.ntmps89
  go_wp2_with fail
  refine (within_is _ _ true (decide_eq_true (by omega)) _).mono ?_
  rintro e w' ⟨rfl, rfl⟩
  go_wp2_with fail
  refine (within_is _ _ true (decide_eq_true (by omega)) _).mono ?_
  rintro e w' ⟨rfl, rfl⟩
  go_wp2
  go_ret2
  exact ⟨by rw [HH.out]; rfl, rfl⟩
set_option maxHeartbeats 4000000 in
theorem syllable_rest (a b : Int) (ha : (Lit.int .i32 a).wf = true) (hb : (Lit.int .i32 b).wf = true) (h : ¬ (4352 ≤ a ∧ a < 4371 ∧ 4449 ≤ b ∧ b < 4470)) (w : World) : Calls Tryz.prog 89 #[.int .i32 a, .int .i32 b] w fun e w' => HangOut a b e ∧ w = w' := by
  have ha' : -2147483648 ≤ a ∧ a ≤ 2147483647 := by simpa [Lit.wf, IntKind.min, IntKind.max, IntKind.signed, IntKind.bits] using ha
  have hb' : -2147483648 ≤ b ∧ b ≤ 2147483647 := by simpa [Lit.wf, IntKind.min, IntKind.max, IntKind.signed, IntKind.bits] using hb
  have L : Hid (∀ m : Int, 0 ≤ m → m ≤ 100 → decide (0 ≤ wrap32 (a - 4352) ∧ wrap32 (a - 4352) < m) = decide (4352 ≤ a ∧ a < 4352 + m)) := Lib.hid fun m h0 h1 => w32 a 4352 ha'.1 ha'.2 (by omega) (by omega) m h0 h1
  have V : Hid (∀ m : Int, 0 ≤ m → m ≤ 100 → decide (0 ≤ wrap32 (b - 4449) ∧ wrap32 (b - 4449) < m) = decide (4449 ≤ b ∧ b < 4449 + m)) := Lib.hid fun m h0 h1 => w32 b 4449 hb'.1 hb'.2 (by omega) (by omega) m h0 h1
  have T : Hid (∀ m : Int, 0 ≤ m → m ≤ 100 → decide (0 ≤ wrap32 (b - 4519) ∧ wrap32 (b - 4519) < m) = decide (4519 ≤ b ∧ b < 4519 + m)) := Lib.hid fun m h0 h1 => w32 b 4519 hb'.1 hb'.2 (by omega) (by omega) m h0 h1
  have TZ : Hid (wrap32 (b - 4519) = 0 ↔ b = 4519) := Lib.hid (by unfold wrap32; omega)
  have HR := Lib.hid (And.intro ha' hb')
  have HH := Lib.hid h
  clear ha hb ha' hb' h
  unfold HangOut
  by_cases hl : 4352 ≤ a ∧ a < 4352 + 19
  · have hin1 : decide (0 ≤ wrap32 (a - 4352) ∧ wrap32 (a - 4352) < 19) = true := by rw [L.out 19 (by omega) (by omega)]; exact decide_eq_true hl
    have hin2 : decide (0 ≤ wrap32 (b - 4449) ∧ wrap32 (b - 4449) < 21) = false := by
      rw [V.out 21 (by omega) (by omega)]
      refine decide_eq_false (fun k => HH.out ?_)
      omega
    have HL := Lib.hid (And.intro hin1 hin2)
    clear hl hin1 hin2
    go_enter Tryz.func89, Tryz.ntmps89
    go_wp2_with fail
    refine (within_is _ _ true HL.out.1 _).mono ?_
    rintro e w' ⟨rfl, rfl⟩
    go_wp2_with fail
    refine (within_is _ _ false HL.out.2 _).mono ?_
    rintro e w' ⟨rfl, rfl⟩
    by_cases hs : syl a = true
    · have HSY := Lib.hid hs
      have hsr : 44032 ≤ a ∧ a ≤ 55203 := by simpa [syl] using hs
      have ws : wrap32 (a - 44032) = a - 44032 := by unfold wrap32; omega
      have wt : (a - 44032).tmod 28 = (a - 44032) % 28 := Int.tmod_eq_emod_of_nonneg (by omega)
      have HSR := Lib.hid hsr
      clear hs hsr
      go_wp2_with fail
      refine (issyl_is a true HSY.out _).mono ?_
      rintro e w' ⟨rfl, rfl⟩
      by_cases hm : (a - 44032) % 28 = 0
      · have hm1 : ((a - 44032) % 28 == 0) = true := by simpa using hm
        have HM := Lib.hid hm
        by_cases hb0 : b = 4519
        · have hb1 : (wrap32 (b - 4519) != 0) = false := by have := TZ.out.2 hb0; simp [this]
          have HC := Lib.hid (hang_c HH.out (fun k => by omega))
          clear hm hb0
          go_wp2
          go_ret2
          exact ⟨by rw [HC.out]; rfl, rfl⟩
        · have hb1 : (wrap32 (b - 4519) != 0) = true := by
            have : ¬ wrap32 (b - 4519) = 0 := fun k => hb0 (TZ.out.1 k)
            simpa using this
          by_cases hbt : 4519 ≤ b ∧ b < 4519 + 28
          · have HC := Lib.hid (hang_b HH.out ⟨HSY.out, hm, by omega, by omega⟩)
            have HBT := Lib.hid hbt
            have wv : wrap32 (b - 4519) = b - 4519 := by unfold wrap32; omega
            have hb1' : (b - 4519 != 0) = true := by rw [← wv]; exact hb1
            have wsum : wrap32 (a + (b - 4519)) = a + (b - 4519) := by have := HSR.out; unfold wrap32; omega
            have hin : decide (0 ≤ b - 4519 ∧ b - 4519 < 28) = true := decide_eq_true (by omega)
            clear hm hb0 hbt hb1
            go_wp2_with fail
            refine (within_is _ _ true hin _).mono ?_
            rintro e w' ⟨rfl, rfl⟩
            go_wp2
            go_ret2
            exact ⟨by rw [HC.out]; exact ret_ib wsum rfl, rfl⟩
          · have HC := Lib.hid (hang_c HH.out (fun k => hbt ⟨by omega, by omega⟩))
            have hin : decide (0 ≤ wrap32 (b - 4519) ∧ wrap32 (b - 4519) < 28) = false := by rw [T.out 28 (by omega) (by omega)]; exact decide_eq_false hbt
            clear hm hb0 hbt
            go_wp2_with fail
            refine (within_is _ _ false hin _).mono ?_
            rintro e w' ⟨rfl, rfl⟩
            go_wp2
            go_ret2
            exact ⟨by rw [HC.out]; rfl, rfl⟩
      · have hm1 : ((a - 44032) % 28 == 0) = false := by simpa using hm
        have HC := Lib.hid (hang_c HH.out (fun k => hm k.2.1))
        clear hm
        go_wp2
        go_ret2
        exact ⟨by rw [HC.out]; rfl, rfl⟩
    · have hs' : syl a = false := by simpa using hs
      have HSY := Lib.hid hs'
      have HC := Lib.hid (hang_c HH.out (fun k => hs k.1))
      clear hs hs'
      go_wp2_with fail
      refine (issyl_is a false HSY.out _).mono ?_
      rintro e w' ⟨rfl, rfl⟩
      go_wp2
      go_ret2
      exact ⟨by rw [HC.out]; rfl, rfl⟩
  · have hin1 : decide (0 ≤ wrap32 (a - 4352) ∧ wrap32 (a - 4352) < 19) = false := by rw [L.out 19 (by omega) (by omega)]; exact decide_eq_false hl
    have HL := Lib.hid hin1
    clear hl hin1
    go_enter Tryz.func89, Tryz.ntmps89
    go_wp2_with fail
    refine (within_is _ _ false HL.out _).mono ?_
    rintro e w' ⟨rfl, rfl⟩
    by_cases hs : syl a = true
    · have HSY := Lib.hid hs
      have hsr : 44032 ≤ a ∧ a ≤ 55203 := by simpa [syl] using hs
      have ws : wrap32 (a - 44032) = a - 44032 := by unfold wrap32; omega
      have wt : (a - 44032).tmod 28 = (a - 44032) % 28 := Int.tmod_eq_emod_of_nonneg (by omega)
      have HSR := Lib.hid hsr
      clear hs hsr
      go_wp2_with fail
      refine (issyl_is a true HSY.out _).mono ?_
      rintro e w' ⟨rfl, rfl⟩
      by_cases hm : (a - 44032) % 28 = 0
      · have hm1 : ((a - 44032) % 28 == 0) = true := by simpa using hm
        have HM := Lib.hid hm
        by_cases hb0 : b = 4519
        · have hb1 : (wrap32 (b - 4519) != 0) = false := by have := TZ.out.2 hb0; simp [this]
          have HC := Lib.hid (hang_c HH.out (fun k => by omega))
          clear hm hb0
          go_wp2
          go_ret2
          exact ⟨by rw [HC.out]; rfl, rfl⟩
        · have hb1 : (wrap32 (b - 4519) != 0) = true := by
            have : ¬ wrap32 (b - 4519) = 0 := fun k => hb0 (TZ.out.1 k)
            simpa using this
          by_cases hbt : 4519 ≤ b ∧ b < 4519 + 28
          · have HC := Lib.hid (hang_b HH.out ⟨HSY.out, hm, by omega, by omega⟩)
            have HBT := Lib.hid hbt
            have wv : wrap32 (b - 4519) = b - 4519 := by unfold wrap32; omega
            have hb1' : (b - 4519 != 0) = true := by rw [← wv]; exact hb1
            have wsum : wrap32 (a + (b - 4519)) = a + (b - 4519) := by have := HSR.out; unfold wrap32; omega
            have hin : decide (0 ≤ b - 4519 ∧ b - 4519 < 28) = true := decide_eq_true (by omega)
            clear hm hb0 hbt hb1
            go_wp2_with fail
            refine (within_is _ _ true hin _).mono ?_
            rintro e w' ⟨rfl, rfl⟩
            go_wp2
            go_ret2
            exact ⟨by rw [HC.out]; exact ret_ib wsum rfl, rfl⟩
          · have HC := Lib.hid (hang_c HH.out (fun k => hbt ⟨by omega, by omega⟩))
            have hin : decide (0 ≤ wrap32 (b - 4519) ∧ wrap32 (b - 4519) < 28) = false := by rw [T.out 28 (by omega) (by omega)]; exact decide_eq_false hbt
            clear hm hb0 hbt
            go_wp2_with fail
            refine (within_is _ _ false hin _).mono ?_
            rintro e w' ⟨rfl, rfl⟩
            go_wp2
            go_ret2
            exact ⟨by rw [HC.out]; rfl, rfl⟩
      · have hm1 : ((a - 44032) % 28 == 0) = false := by simpa using hm
        have HC := Lib.hid (hang_c HH.out (fun k => hm k.2.1))
        clear hm
        go_wp2
        go_ret2
        exact ⟨by rw [HC.out]; rfl, rfl⟩
    · have hs' : syl a = false := by simpa using hs
      have HSY := Lib.hid hs'
      have HC := Lib.hid (hang_c HH.out (fun k => hs k.1))
      clear hs hs'
      go_wp2_with fail
      refine (issyl_is a false HSY.out _).mono ?_
      rintro e w' ⟨rfl, rfl⟩
      go_wp2
      go_ret2
      exact ⟨by rw [HC.out]; rfl, rfl⟩
theorem syllable_is (a b : Int) (ha : (Lit.int .i32 a).wf = true) (hb : (Lit.int .i32 b).wf = true) (o : Option Int) (ho : hang a b = o) (w : World) : Calls Tryz.prog 89 #[.int .i32 a, .int .i32 b] w fun e w' => e = .returned (.tuple #[.int .i32 (o.getD 0), .bool o.isSome]) ∧ w = w' := by
  subst ho
  by_cases h : 4352 ≤ a ∧ a < 4371 ∧ 4449 ≤ b ∧ b < 4470
  · exact syllable_a a b h.1 h.2.1 h.2.2.1 h.2.2.2 w
  · exact syllable_rest a b ha hb h w
end Go.Proofs.YtbclodbneonipaaGreat
/-
  The mathematics of layer 4, second part: runes put together; a table that is right; what the statements ask. Program-free.
-/
namespace Go.Proofs.YtbclodbneonipaaGreat.N
structure Tg where
  out : List Int
  st : Int
  last : Int
def push (g : Tg) (r c : Int) : Tg := ⟨g.out ++ [r], if c = 0 then (g.out.length : Int) else g.st, c⟩
def tstep (T : Tab) (g : Tg) (r : Int) : Tg :=
  if 0 ≤ g.st ∧ (g.st = (g.out.length : Int) - 1 ∨ g.last < cls T r) then
    match both T (g.out.getD g.st.toNat 0) r with
    | some x => ⟨g.out.set g.st.toNat x, g.st, g.last⟩
    | none => push g r (cls T r)
  else push g r (cls T r)
def tg0 : Tg := ⟨[], -1, 0⟩
def tgl (T : Tab) (l : List Int) : Tg := l.foldl (tstep T) tg0
def tog (T : Tab) (l : List Int) : List Int := (tgl T l).out
theorem tgl_snoc (T : Tab) (l : List Int) (r : Int) : tgl T (l ++ [r]) = tstep T (tgl T l) r := by unfold tgl; rw [List.foldl_append]; rfl
theorem tstep_len (T : Tab) (g : Tg) (r : Int) : (tstep T g r).out.length ≤ g.out.length + 1 := by
  unfold tstep
  split
  · split
    · simp
    · simp [push]
  · simp [push]
theorem tgl_len (T : Tab) : ∀ l : List Int, (tgl T l).out.length ≤ l.length := SM.S_ind (by simp [tgl, tg0]) fun l r h => by
  rw [tgl_snoc, List.length_append, List.length_singleton]
  have := tstep_len T (tgl T l) r
  omega
theorem tog_len (T : Tab) (l : List Int) : (tog T l).length ≤ l.length := tgl_len T l
/-- where the last starter stands -/
def StOk (g : Tg) : Prop := -1 ≤ g.st ∧ g.st < g.out.length
theorem tstep_ok {T : Tab} {g : Tg} (h : StOk g) (r : Int) : StOk (tstep T g r) := by
  obtain ⟨h1, h2⟩ := h
  have hp : ∀ c, StOk (push g r c) := fun c => by
    unfold push StOk
    simp only [List.length_append, List.length_singleton]
    split <;> omega
  unfold tstep
  split
  · split
    · exact ⟨h1, by simpa using h2⟩
    · exact hp _
  · exact hp _
theorem tgl_ok (T : Tab) : ∀ l : List Int, StOk (tgl T l) := SM.S_ind (by unfold StOk tgl tg0; simp) fun l r h => by
  rw [tgl_snoc]; exact tstep_ok h r
end Go.Proofs.YtbclodbneonipaaGreat.N
namespace Go.Proofs.YtbclodbneonipaaGreat
open Go.RowKit N
/-- the runes of l are int32 -/
def Wf32 (l : List Int) : Prop := ∀ x ∈ l, (Lit.int .i32 x).wf = true
abbrev GC (q : TQ) (outv : Value) (st last : Int) : Array Value := #[.slice q.p0 q.T.spans.length q.c0, .slice q.p1 q.T.classes.length q.c1, .slice q.p2 q.T.pairs.length q.c2, .slice q.p3 q.T.ways.length q.c3, .slice q.p4 q.T.joins.length q.c4, outv, .int .i64 st, .int .u8 last]
set_option maxHeartbeats 1000000 in
theorem whole_is (g : Nat) (q : TQ) (outv : Value) (st last : Int) (a b : Int) (ha : (Lit.int .i32 a).wf = true) (hb : (Lit.int .i32 b).wf = true) (o : Option Int) (ho : both q.T a b = o) (w : World) (hG : Has w g (.cells (GC q outv st last) 62)) (h : TabAt w q) (hf : Fit q.T) :
    Calls Tryz.prog 51 #[.pointer (some ⟨g, 0, none⟩), .int .i32 a, .int .i32 b] w fun e w' => e = .returned (.tuple #[.int .i32 (o.getD 0), .bool o.isSome]) ∧ Below w.heap.size w w' := by
  have c0 : w.cell? ⟨g, 0, none⟩ = some (.slice q.p0 q.T.spans.length q.c0) := hG.cell 0 rfl
  have c1 : w.cell? ⟨g, 1, none⟩ = some (.slice q.p1 q.T.classes.length q.c1) := hG.cell 1 rfl
  have c2 : w.cell? ⟨g, 2, none⟩ = some (.slice q.p2 q.T.pairs.length q.c2) := hG.cell 2 rfl
  have c3 : w.cell? ⟨g, 3, none⟩ = some (.slice q.p3 q.T.ways.length q.c3) := hG.cell 3 rfl
  have c4 : w.cell? ⟨g, 4, none⟩ = some (.slice q.p4 q.T.joins.length q.c4) := hG.cell 4 rfl
  unfold both at ho
  cases hh : hang a b with
  | some x =>
    rw [hh] at ho
    simp only at ho
    subst ho
    have HH := Lib.hid hh
    have HW := Lib.hid (And.intro ha hb)
    clear hh ha hb h hf hG
    go_enter Tryz.func51, Tryz.ntmps51
    go_wp2_with fail
    refine (syllable_is a b HW.out.1 HW.out.2 (some x) HH.out _).mono ?_
    rintro e w' ⟨rfl, rfl⟩
    go_wp2
    go_ret2
    exact ⟨rfl, Below.refl _ _⟩
  | none =>
    rw [hh] at ho
    simp only at ho
    have HH := Lib.hid hh
    have HO := Lib.hid ho
    have HW := Lib.hid (And.intro ha hb)
    have HT := Lib.hid (And.intro h hf)
    clear hh ha hb h hf hG ho
    go_enter Tryz.func51, Tryz.ntmps51
    go_wp2_with fail
    refine (syllable_is a b HW.out.1 HW.out.2 none HH.out _).mono ?_
    rintro e w' ⟨rfl, rfl⟩
    go_wp2_with fail
    refine (put_is q a b o HO.out _ HT.out.1 HT.out.2).mono ?_
    rintro e w' ⟨rfl, hb1⟩
    go_wp2
    go_ret2
    exact ⟨rfl, hb1⟩
set_option maxHeartbeats 1000000 in
theorem reached_is (g : Nat) (q : TQ) (p : Option Addr) (n cap : Nat) (hn : n ≤ 140737488355328) (st last c : Int) (hst : -1 ≤ st ∧ st < n) (b : Bool) (hb : decide (0 ≤ st ∧ (st = (n : Int) - 1 ∨ last < c)) = b) (w : World) (hG : Has w g (.cells (GC q (.slice p n cap) st last) 62)) :
    Calls Tryz.prog 50 #[.pointer (some ⟨g, 0, none⟩), .int .u8 c] w fun e w' => e = .returned (.bool b) ∧ Below w.heap.size w w' := by
  have c5 : w.cell? ⟨g, 5, none⟩ = some (.slice p n cap) := hG.cell 5 rfl
  have c6 : w.cell? ⟨g, 6, none⟩ = some (.int .i64 st) := hG.cell 6 rfl
  have c7 : w.cell? ⟨g, 7, none⟩ = some (.int .u8 last) := hG.cell 7 rfl
  clear hG
  obtain ⟨h1, h2⟩ := hst
  by_cases h0 : st < 0
  · have HB : Hid (b = false) := Lib.hid (by rw [← hb]; exact decide_eq_false (by omega))
    clear hb
    go_enter Tryz.func50, Tryz.ntmps50
    go_wp2
    go_ret
    exact ⟨by rw [HB.out]; rfl, Below.refl _ _⟩
  · have h0' : ¬ st < 0 := h0
    have wn : IntKind.i64.wrap ((n : Int) - 1) = (n : Int) - 1 := IntWalk.i64_in _ (by omega)
    by_cases h3 : st = (n : Int) - 1
    · have e3 : (st == (n : Int) - 1) = true := by simpa using h3
      have HB : Hid (b = true) := Lib.hid (by rw [← hb]; exact decide_eq_true ⟨by omega, .inl h3⟩)
      clear hb h3
      go_enter Tryz.func50, Tryz.ntmps50
      go_wp2
      go_quiet (fail)
      go_wp2
      go_ret
      exact ⟨by rw [HB.out]; rfl, below_dn (Below.refl _ _) _⟩
    · have e3 : (st == (n : Int) - 1) = false := by simpa using h3
      have HB : Hid (b = decide (last < c)) := Lib.hid (by rw [← hb]; congr 1; apply propext; omega)
      clear hb h3
      go_enter Tryz.func50, Tryz.ntmps50
      go_wp2
      go_quiet (fail)
      go_wp2
      go_ret
      exact ⟨by rw [HB.out]; rfl, below_dn (Below.refl _ _) _⟩
end Go.Proofs.YtbclodbneonipaaGreat
