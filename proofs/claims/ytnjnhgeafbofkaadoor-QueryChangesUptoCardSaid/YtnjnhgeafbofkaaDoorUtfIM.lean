import Derived.Test.YtnjnhgeafbofkaaDoorUtfFM
import Derived.BigQuiet
import Derived.Deep.QuietTactic
import Derived.Laws.OwnMore
import Derived.Test.YtnjnhgeafbofkaaDoorPBM
import Derived.RowKit
namespace Go.Proofs.YtnjnhgeafbofkaaDoor
open Go.RowKit Go.Shelf
attribute [local go_sem] Oper.semAt_some
theorem bld_box {β : Type} (B b B0 bx : Nat) (f : β → List UInt8) : OwnBox 9 B0 bx (fun s W => Bld B b (f s) W) := by
  intro s X Y row h hg hrow
  obtain ⟨hB, v, hbk, ⟨hn, hown⟩, hne⟩ := h
  have key : ∀ (k : Nat) (cs : Array Value) (t : TypeId) (fz : Nat × Nat), t ≠ 9 → X.heap[k]? = some (Obj.cells cs t fz) → Y.heap[k]? = some (Obj.cells cs t fz) := by
    intro k cs t fz ht hk
    refine (hg.block k (Array.getElem?_eq_some_iff.1 hk).1 (fun e' => ?_)).trans hk
    rcases hrow k e'.symm with ⟨_, o, ho, hc⟩ | ⟨rfl, ⟨x, hx⟩, _⟩
    · rw [hk] at ho; cases ho; cases hc
    · have hh := hx.symm.trans hk
      simp at hh
      exact ht hh.2.1.symm
  refine ⟨hB, v, key _ _ _ _ (by decide) hbk, ⟨hn, ?_⟩, hne⟩
  rcases hown with h | ⟨g, cap, cur, fz, hv, hBg, hg', rest⟩
  · exact .inl h
  · exact .inr ⟨g, cap, cur, fz, hv, hBg, key _ _ _ _ (by decide) hg', rest⟩
def zs (pre : List (Nat × List UInt8)) : List Int := pre.map fun x => (x.1 : Int)
theorem zs_pieces (l : List UInt8) : zs (U.pieces l) = U.runesZ l := by
  unfold zs U.runesZ U.runes
  rw [List.map_map]; rfl
theorem zs_snoc (pre : List (Nat × List UInt8)) (x : Nat × List UInt8) : U.enc (zs (pre ++ [x])) = U.enc (zs pre) ++ U.encR x.1 := by
  unfold zs
  rw [List.map_append, U.enc_app]
  simp [U.enc_cons, U.enc_nil]
theorem zs_len (pre : List (Nat × List UInt8)) : (U.enc (zs pre)).length ≤ 4 * pre.length := by
  have := U.enc_len (zs pre)
  unfold zs at this ⊢
  rw [List.length_map] at this
  exact this
set_option maxRecDepth 100000 in
set_option maxHeartbeats 4000000 in
theorem scalar_box (n : Nat) (hn : 4 ≤ n) (u : ByteArray) (hu : u.size * 4 ≤ 140737488355328) (w : World) :
    CallsIn Fence.wide n Tryd.prog 51 #[.string u] w fun e W' => e = .returned (.string ⟨(U.scal u.data.toList).toArray⟩) ∧ Below w.heap.size w W' := by
  have h1 : 1 ≤ n := by omega
  have hpl := (U.runes_count u.data.toList).1
  rw [len_list, ← pieces_len] at hpl
  refine callsIn_of_wp_marks Tryd.func51 rfl trivial ?_ rfl
  simp only [Tryd.ntmps51, List.size_toArray, List.length_cons, List.length_nil, Nat.reduceAdd, Nat.reduceSub, Array.replicate_succ, Array.replicate_zero, List.push_toArray, List.append_toArray, List.nil_append, List.cons_append]
  have hblk := heap_alloc_new w (.cells #[.pointer none, .slice none 0 0] 47)
  gi_wp2_with fail
  refine ⟨trivial, ?_⟩
  refine (callsIn_wide.2 (grow_any w.heap.size w.heap.size u.size _ (Nat.le_refl _) hblk (by simp) (by omega))).mono ?_
  rintro e w1 ⟨rfl, hb1, hbel1⟩
  have hbel := ((Below.refl w.heap.size w).alloc (Nat.le_refl _) (.cells #[.pointer none, .slice none 0 0] 47)).trans hbel1
  have hz1 := hbel1.size
  simp at hz1
  clear hbel1 hblk
  gi_wp2_with fail
  refine ⟨trivial, ?_⟩
  refine (parts_box (n - 1) _ _).mono ?_
  rintro e w' ⟨rfl, rfl⟩
  gi_wp2_with fail
  have bN := Boxed.new w1 9 (.string u)
  have hB0 : Below w.heap.size w (w1.alloc (.cells #[.string u] 9)) := hbel.alloc (by omega) _
  have hb2 := hb1.later ((Below.refl _ w1).alloc (Nat.le_refl _) (.cells #[.string u] 9))
  refine wpIn_rangeFunc_box rfl h1 (gf := 63) (lb := #[.pointer (some ⟨w1.heap.size, 0, none⟩)]) rfl trivial (enters_of Tryd.func63 (by kernel_rfl) rfl) (bx := w1.heap.size) (by simp)
    (iter_box (n - 1) (by omega) w1.heap.size u (by unfold maxLen; omega) _ bN) (fun _ => rfl)
    (fun pre W => Bld w.heap.size w.heap.size (U.enc (zs pre)) W ∧ Below w.heap.size w W ∧ TextBox 9 w1.heap.size W)
    (fun _ _ _ => False)
    (OwnBox.and (bld_box _ _ _ _ (fun pre => U.enc (zs pre))) (OwnBox.and (ownBox_below (Nat.le_refl _) (by simp; omega) (by omega)) ownBox_text))
    (fun _ _ _ _ _ hs _ _ => hs)
    ⟨hb2, hB0, ⟨u, bN⟩⟩
    (fun x => { tmps := #[.string u, undef, .string ⟨#[]⟩, .pointer (some ⟨w.heap.size, 0, none⟩), .int .i32 x.1, .string u, .int .i64 u.size, .tuple #[], .string u, .func (.func 63) #[] #[.pointer (some ⟨w1.heap.size, 0, none⟩)], .int .i32 x.1, .string ⟨x.2.toArray⟩, undef, undef, undef], defers := [] }) ?assign ?body ?done ?stop
  case assign =>
    intro l x W K hK
    unfold encP
    gi_wp2
    exact hK
  case body =>
    rintro l pre ⟨r, part⟩ W ⟨hb, hB, ⟨tx, htx⟩⟩ hlt
    have hzl := zs_len pre
    have hq := hB.size
    gi_wp2_with fail
    refine ⟨trivial, fun _ => by omega, ?_⟩
    refine (CallsIn.inRound l (callsIn_wide.2 (put_any w.heap.size w.heap.size (U.enc (zs pre)) r _ hb (by omega) (by omega)))).mono ?_
    rintro e w3 ⟨rfl, hb3, hbel3, ho3⟩
    have hbx3 := ho3 _ _ htx (by
      intro e'
      obtain ⟨_, v, hbk, _⟩ := hb
      have e2 : w1.heap.size = w.heap.size := by simpa using e'
      rw [e2, hbk] at htx
      simp at htx) (by intro c fz e'; cases e')
    gi_wp2
    refine ⟨⟨hbel3.size, fun k o hk ho => ho3 k o hk (fun e' => ?_) (fun c fz e' => by subst e'; cases ho)⟩, hbx3.trans htx.symm, by rw [zs_snoc]; exact hb3, hB.trans hbel3, ⟨tx, hbx3⟩⟩
    obtain ⟨_, v, hbk, _⟩ := hb
    have e2 : k = w.heap.size := by simpa using e'
    rw [e2, hbk] at hk
    cases hk; cases ho
  case done =>
    rintro D ys W hD rfl ⟨hb, hB, _⟩ hK
    have hq := hB.size
    rw [zs_pieces] at hb
    gi_wp2_with fail
    refine ⟨trivial, ?_⟩
    refine (callsIn_wide.2 (bString 47 w.heap.size w.heap.size _ _ (.inr hb) (by omega))).mono ?_
    rintro e w3 ⟨rfl, hbel3, ho3⟩
    have hK3 := ho3 _ _ hK (by
      intro e'
      obtain ⟨_, v, hbk, _⟩ := hb
      have e2 : D = w.heap.size := by simpa using e'
      rw [e2, hbk] at hK
      cases hK) (by intro c fz e'; cases e')
    gi_wp2
    refine ⟨by simp, .inl ⟨_, _, rfl, run_takeDeferred hK3, ?_⟩⟩
    exact ⟨_, results_tmp rfl _ _ _, rfl, (hB.trans hbel3).trans (belowK_b (w := w) (Nat.le_refl _) w3 D _ _ (by simp at hD; omega) hK3 rfl rfl)⟩
  case stop =>
    rintro D c pre W _ _ h _
    exact h.elim
theorem scalar_is (u : ByteArray) (T : List UInt8) (hT : U.scal u.data.toList = T) (hu : u.size * 4 ≤ 140737488355328) (w : World) :
    Calls Tryd.prog 51 #[.string u] w fun e w' => e = .returned (.string ⟨T.toArray⟩) ∧ Below w.heap.size w w' := by
  rw [← hT]; exact (callsIn_wide (n := 4)).1 (scalar_box 4 (Nat.le_refl _) u hu w)
end Go.Proofs.YtnjnhgeafbofkaaDoor
namespace Go.Proofs.YtnjnhgeafbofkaaDoor
open Go.RowKit
theorem Runes.at {w : World} {base : Nat} {v : Value} {l : List Int} (h : Runes w base v l) : RunesAt w v l := by
  obtain ⟨hr, _⟩ := h
  have hr0 := hr
  rcases hr.2 with ⟨rfl, h0⟩ | ⟨g, cap, cur, rfl, hb, hgb, _⟩
  · have : l = [] := List.eq_nil_of_length_eq_zero h0
    subst this
    exact ⟨none, 0, rfl, fun k x hk => by simp at hk⟩
  · refine ⟨_, cap, rfl, fun k x hk => ⟨g, 0, rfl, (Array.getElem?_eq_some_iff.1 hgb).1, ?_⟩⟩
    have hkl : k < l.length := (List.getElem?_eq_some_iff.1 hk).1
    rw [Nat.zero_add, hr0.cellAt k (by omega), List.getElem?_map, hk]; rfl
theorem runes_lit {w : World} {g t : Nat} {l : List Int} (h : w.heap[g]? = some (.cells (l.map (Value.int .i32)).toArray t (0, 0))) (cap : Nat) : RunesAt w (.slice (some ⟨g, 0, none⟩) l.length cap) l := by
  refine ⟨_, cap, rfl, fun k x hk => ⟨g, 0, rfl, (Array.getElem?_eq_some_iff.1 h).1, ?_⟩⟩
  rw [Nat.zero_add, cell_of_row _ _ k _ _ _ h]
  simp [hk]
end Go.Proofs.YtnjnhgeafbofkaaDoor
namespace Go.Proofs.YtnjnhgeafbofkaaDoor
open Go.RowKit
set_option maxHeartbeats 400000 in
theorem rmay_any (r : Int) (w : World) : Calls Tryd.prog 106 #[.int .i32 r] w fun e w' => e = .returned (.bool (decide (U.May r))) ∧ w = w' := by
  have H : Hid ((U.May r → decide (U.May r) = true) ∧ (¬ U.May r → decide (U.May r) = false)) := Lib.hid ⟨fun h => by simp [h], fun h => by simp [h]⟩
  by_cases h0 : 0 ≤ r
  · by_cases h2 : r < 55296
    · go_enter Tryd.func106, Tryd.ntmps106
      go_wp2
      go_ret
      exact ⟨ret_bool (by rw [H.out.1 (by unfold U.May; omega)]), rfl⟩
    · by_cases h3 : 57343 < r
      · by_cases h1 : r ≤ 1114111
        · go_enter Tryd.func106, Tryd.ntmps106
          go_wp2
          go_ret
          exact ⟨ret_bool (by rw [H.out.1 (by unfold U.May; omega)]), rfl⟩
        · go_enter Tryd.func106, Tryd.ntmps106
          go_wp2
          go_ret
          exact ⟨ret_bool (by rw [H.out.2 (by unfold U.May; omega)]), rfl⟩
      · go_enter Tryd.func106, Tryd.ntmps106
        go_wp2
        go_ret
        exact ⟨ret_bool (by rw [H.out.2 (by unfold U.May; omega)]), rfl⟩
  · by_cases h3 : 57343 < r
    · omega
    · go_enter Tryd.func106, Tryd.ntmps106
      go_wp2
      go_ret
      exact ⟨ret_bool (by rw [H.out.2 (by unfold U.May; omega)]), rfl⟩
theorem rmay_yes (r : Int) (h : U.May r) (w : World) : Calls Tryd.prog 106 #[.int .i32 r] w fun e w' => e = .returned (.bool true) ∧ w = w' := (rmay_any r w).mono fun _ _ ⟨h1, h2⟩ => ⟨by rw [h1]; exact ret_bool (by simp [h]), h2⟩
theorem rmay_no (r : Int) (h : ¬ U.May r) (w : World) : Calls Tryd.prog 106 #[.int .i32 r] w fun e w' => e = .returned (.bool false) ∧ w = w' := (rmay_any r w).mono fun _ _ ⟨h1, h2⟩ => ⟨by rw [h1]; exact ret_bool (by simp [h]), h2⟩
def RBytes (r : Int) (w : World) (e : Ending) (w' : World) : Prop := e = .returned (.slice (some ⟨w.heap.size, 0, none⟩) (U.encR r).length (U.encR r).length) ∧ w' = w.alloc (.cells (Lib.byteCells (U.encR r)).toArray 5)
theorem u8i (x : Int) (h0 : 0 ≤ x) (h1 : x < 256) : ((x.toNat.toUInt8).toNat : Int) = x := by rw [U.u8_nat (by omega)]; omega
set_option maxRecDepth 20000 in
set_option maxHeartbeats 2000000 in
theorem rbytes_1 (r : Int) (h1 : 0 ≤ r) (h2 : r ≤ 127) (w : World) : Calls Tryd.prog 88 #[.int .i32 r] w (RBytes r w) := by
  have HM := Lib.hid (show U.May r by unfold U.May; omega)
  have HE := Lib.hid (U.encR1 (r := r) h1 h2)
  have E0 := Lib.hid (u8i (r) (by omega) (by omega))
  unfold RBytes
  rw [HE.out]
  go_enter Tryd.func88, Tryd.ntmps88
  go_wp2_with fail
  refine (rmay_yes r HM.out _).mono ?_
  rintro e w' ⟨rfl, rfl⟩
  go_wp2
  go_ret
  refine ⟨rfl, ?_⟩
  simp only [Lib.byteCells, List.map_cons, List.map_nil, E0.out]
set_option maxRecDepth 20000 in
set_option maxHeartbeats 2000000 in
theorem rbytes_2 (r : Int) (h1 : 128 ≤ r) (h2 : r ≤ 2047) (w : World) : Calls Tryd.prog 88 #[.int .i32 r] w (RBytes r w) := by
  have HM := Lib.hid (show U.May r by unfold U.May; omega)
  have HE := Lib.hid (U.encR2 (r := r) h1 h2)
  have E0 := Lib.hid (u8i (192 + r / 64) (by omega) (by omega))
  have E1 := Lib.hid (u8i (128 + r % 64) (by omega) (by omega))
  unfold RBytes
  rw [HE.out]
  go_enter Tryd.func88, Tryd.ntmps88
  go_wp2_with fail
  refine (rmay_yes r HM.out _).mono ?_
  rintro e w' ⟨rfl, rfl⟩
  go_wp2
  go_ret
  refine ⟨rfl, ?_⟩
  simp only [Lib.byteCells, List.map_cons, List.map_nil, E0.out, E1.out]
set_option maxRecDepth 20000 in
set_option maxHeartbeats 2000000 in
theorem rbytes_3 (r : Int) (hr : (2048 ≤ r ∧ r < 55296) ∨ (57343 < r ∧ r ≤ 65535)) (w : World) : Calls Tryd.prog 88 #[.int .i32 r] w (RBytes r w) := by
  have HM := Lib.hid (show U.May r by unfold U.May; omega)
  have HE := Lib.hid (U.encR3 (r := r) hr)
  have g1 : 2048 ≤ r := by omega
  have g2 : r ≤ 65535 := by omega
  clear hr
  have E0 := Lib.hid (u8i (224 + r / 4096) (by omega) (by omega))
  have E1 := Lib.hid (u8i (128 + r / 64 % 64) (by omega) (by omega))
  have E2 := Lib.hid (u8i (128 + r % 64) (by omega) (by omega))
  unfold RBytes
  rw [HE.out]
  go_enter Tryd.func88, Tryd.ntmps88
  go_wp2_with fail
  refine (rmay_yes r HM.out _).mono ?_
  rintro e w' ⟨rfl, rfl⟩
  go_wp2
  go_ret
  refine ⟨rfl, ?_⟩
  simp only [Lib.byteCells, List.map_cons, List.map_nil, E0.out, E1.out, E2.out]
set_option maxRecDepth 20000 in
set_option maxHeartbeats 2000000 in
theorem rbytes_4 (r : Int) (h1 : 65536 ≤ r) (h2 : r ≤ 1114111) (w : World) : Calls Tryd.prog 88 #[.int .i32 r] w (RBytes r w) := by
  have HM := Lib.hid (show U.May r by unfold U.May; omega)
  have HE := Lib.hid (U.encR4 (r := r) h1 h2)
  have E0 := Lib.hid (u8i (240 + r / 262144) (by omega) (by omega))
  have E1 := Lib.hid (u8i (128 + r / 4096 % 64) (by omega) (by omega))
  have E2 := Lib.hid (u8i (128 + r / 64 % 64) (by omega) (by omega))
  have E3 := Lib.hid (u8i (128 + r % 64) (by omega) (by omega))
  unfold RBytes
  rw [HE.out]
  go_enter Tryd.func88, Tryd.ntmps88
  go_wp2_with fail
  refine (rmay_yes r HM.out _).mono ?_
  rintro e w' ⟨rfl, rfl⟩
  go_wp2
  go_ret
  refine ⟨rfl, ?_⟩
  simp only [Lib.byteCells, List.map_cons, List.map_nil, E0.out, E1.out, E2.out, E3.out]
set_option maxRecDepth 20000 in
set_option maxHeartbeats 2000000 in
theorem rbytes_bad (r : Int) (hm : ¬ U.May r) (w : World) : Calls Tryd.prog 88 #[.int .i32 r] w (RBytes r w) := by
  have HM := Lib.hid hm
  have HE := Lib.hid (show U.encR r = U.encR 65533 by rw [U.encR_bad hm]; rfl)
  unfold RBytes
  rw [HE.out]
  go_enter Tryd.func88, Tryd.ntmps88
  go_wp2_with fail
  refine (rmay_no r HM.out _).mono ?_
  rintro e w' ⟨rfl, rfl⟩
  go_wp2_with fail
  refine (rbytes_3 65533 (by omega) _).mono ?_
  rintro e w' ⟨rfl, rfl⟩
  go_wp2
  go_ret
  exact ⟨rfl, rfl⟩
theorem rbytes_any (r : Int) (w : World) : Calls Tryd.prog 88 #[.int .i32 r] w (RBytes r w) := by
  by_cases hm : U.May r
  · have hr : (0 ≤ r ∧ r < 55296) ∨ (57343 < r ∧ r ≤ 1114111) := hm
    by_cases h1 : r ≤ 127
    · exact rbytes_1 r (by omega) h1 w
    · by_cases h2 : r ≤ 2047
      · exact rbytes_2 r (by omega) h2 w
      · by_cases h3 : r ≤ 65535
        · exact rbytes_3 r (by omega) w
        · exact rbytes_4 r (by omega) (by omega) w
  · exact rbytes_bad r hm w
theorem rbytes_is (r : Int) (L : List UInt8) (hL : U.encR r = L) (w : World) : Calls Tryd.prog 88 #[.int .i32 r] w fun e w' => e = .returned (.slice (some ⟨w.heap.size, 0, none⟩) L.length L.length) ∧ w' = w.alloc (.cells (Lib.byteCells L).toArray 5) := by
  rw [← hL]; exact rbytes_any r w
end Go.Proofs.YtnjnhgeafbofkaaDoor
/-
  Plain mathematics for package pct (no program is named here): the sets of bytes, percent-encoding, percent-decoding, and the case of ASCII letters, as functions on lists of bytes, with the facts about them that the walks and the laws use. No conditions.
-/
namespace Go.Proofs.YtnjnhgeafbofkaaDoor.M

/-! ### Sets -/
def hasB (l : List Nat) (b : Nat) : Bool := l.contains b
def inB (s b : Nat) : Bool :=
  if s = 0 ∨ 9 ≤ s then false else
  if b < 32 ∨ 126 < b then true else
  match s with
  | 1 => false
  | 2 => hasB [32, 34, 60, 62, 96] b
  | 3 => hasB [32, 34, 35, 60, 62] b
  | 4 => hasB [32, 34, 35, 60, 62] b || b == 39
  | 5 => hasB [32, 34, 35, 60, 62] b || hasB [63, 94, 96, 123, 125] b
  | 6 => hasB [32, 34, 35, 60, 62] b || hasB [63, 94, 96, 123, 125] b || hasB [47, 58, 59, 61, 64, 91, 92, 93, 124] b
  | 7 => hasB [32, 34, 35, 60, 62] b || hasB [63, 94, 96, 123, 125] b || hasB [47, 58, 59, 61, 64, 91, 92, 93, 124] b || hasB [36, 37, 38, 43, 44] b
  | _ => hasB [32, 34, 35, 60, 62] b || hasB [63, 94, 96, 123, 125] b || hasB [47, 58, 59, 61, 64, 91, 92, 93, 124] b || hasB [36, 37, 38, 43, 44] b || hasB [33, 39, 40, 41, 126] b

abbrev Marks := Nat × Nat × Nat × Nat
def sb (m : Marks) (v : Nat) : Marks :=
  if v / 64 = 0 then (m.1 ||| 2 ^ (v % 64), m.2.1, m.2.2.1, m.2.2.2)
  else if v / 64 = 1 then (m.1, m.2.1 ||| 2 ^ (v % 64), m.2.2.1, m.2.2.2)
  else if v / 64 = 2 then (m.1, m.2.1, m.2.2.1 ||| 2 ^ (v % 64), m.2.2.2)
  else (m.1, m.2.1, m.2.2.1, m.2.2.2 ||| 2 ^ (v % 64))
def okM (m : Marks) : Prop := m.1 < 2 ^ 64 ∧ m.2.1 < 2 ^ 64 ∧ m.2.2.1 < 2 ^ 64 ∧ m.2.2.2 < 2 ^ 64
theorem or_lt (a v : Nat) (h : a < 2 ^ 64) : a ||| 2 ^ (v % 64) < 2 ^ 64 :=
  Nat.or_lt_two_pow h (Nat.pow_lt_pow_right (by omega) (Nat.mod_lt _ (by omega)))
theorem sb_ok (m : Marks) (v : Nat) (h : okM m) : okM (sb m v) := by
  obtain ⟨h0, h1, h2, h3⟩ := h
  unfold sb
  split
  · exact ⟨or_lt _ _ h0, h1, h2, h3⟩
  · split
    · exact ⟨h0, or_lt _ _ h1, h2, h3⟩
    · split
      · exact ⟨h0, h1, or_lt _ _ h2, h3⟩
      · exact ⟨h0, h1, h2, or_lt _ _ h3⟩
theorem fold_ok (l : List Nat) (m : Marks) (h : okM m) : okM (l.foldl sb m) := by
  induction l generalizing m with
  | nil => exact h
  | cons v l ih => exact ih _ (sb_ok m v h)
def mk (s : Nat) : Marks :=
  match s with
  | 1 => (4294967295, 9223372036854775808, 18446744073709551615, 18446744073709551615)
  | 2 => [32, 34, 60, 62, 96].foldl sb (mk 1)
  | 3 => [32, 34, 35, 60, 62].foldl sb (mk 1)
  | 4 => [39].foldl sb (mk 3)
  | 5 => [63, 94, 96, 123, 125].foldl sb (mk 3)
  | 6 => [47, 58, 59, 61, 64, 91, 92, 93, 124].foldl sb (mk 5)
  | 7 => [36, 37, 38, 43, 44].foldl sb (mk 6)
  | 8 => [33, 39, 40, 41, 126].foldl sb (mk 7)
  | _ => (0, 0, 0, 0)
def bitAt (m : Marks) (b : Nat) : Bool :=
  ([m.1, m.2.1, m.2.2.1, m.2.2.2].getD (b / 64) 0) / 2 ^ (b % 64) % 2 == 1
theorem bit_in_small : ∀ s, s < 9 → ∀ b, b < 256 → bitAt (mk s) b = inB s b := by decide +kernel
theorem mk_big (s : Nat) (h : 9 ≤ s) : mk s = (0, 0, 0, 0) := by
  unfold mk; split <;> first | omega | rfl
theorem bit_in (s b : Nat) (hb : b < 256) : bitAt (mk s) b = inB s b := by
  by_cases h : s < 9
  · exact bit_in_small s h b hb
  · rw [mk_big s (by omega)]
    have : inB s b = false := by unfold inB; rw [if_pos (Or.inr (by omega))]
    rw [this]
    unfold bitAt
    have h4 : b / 64 = 0 ∨ b / 64 = 1 ∨ b / 64 = 2 ∨ b / 64 = 3 := by omega
    rcases h4 with h | h | h | h <;> rw [h] <;> simp
theorem mk_ok (s : Nat) : okM (mk s) := by
  by_cases h : s < 9
  · have : ∀ s, s < 9 → (mk s).1 < 2 ^ 64 ∧ (mk s).2.1 < 2 ^ 64 ∧ (mk s).2.2.1 < 2 ^ 64 ∧ (mk s).2.2.2 < 2 ^ 64 := by decide +kernel
    exact this s h
  · rw [mk_big s (by omega)]; exact ⟨by decide, by decide, by decide, by decide⟩

/-! ### Encoding -/
def hexU (n : Nat) : UInt8 := if n < 10 then UInt8.ofNat (48 + n) else UInt8.ofNat (55 + n)
def enc1 (s : Nat) (b : UInt8) : List UInt8 := if inB s b.toNat then [37, hexU (b.toNat / 16), hexU (b.toNat % 16)] else [b]
def enc (s : Nat) (l : List UInt8) : List UInt8 := l.flatMap (enc1 s)

/-! ### Decoding -/
def hexv (n : Nat) : Nat := if 48 ≤ n ∧ n ≤ 57 then n - 48 else if 97 ≤ n ∧ n ≤ 102 then n - 87 else if 65 ≤ n ∧ n ≤ 70 then n - 55 else 16
def dec : List UInt8 → List UInt8
  | [] => []
  | c :: rest => match rest with
    | [] => [c]
    | [d] => c :: dec [d]
    | h :: l :: r => if c = 37 ∧ hexv h.toNat < 16 ∧ hexv l.toNat < 16 then UInt8.ofNat (hexv h.toNat * 16 + hexv l.toNat) :: dec r else c :: dec (h :: l :: r)

def escL : List UInt8 → Option UInt8
  | c :: h :: l :: _ => if c = 37 ∧ hexv h.toNat < 16 ∧ hexv l.toNat < 16 then some (UInt8.ofNat (hexv h.toNat * 16 + hexv l.toNat)) else none
  | _ => none
theorem dec_some {l : List UInt8} {v : UInt8} (h : escL l = some v) : 3 ≤ l.length ∧ dec l = v :: dec (l.drop 3) := by
  match l, h with
  | c :: h1 :: l1 :: r, h =>
    simp only [escL] at h
    by_cases hc : c = 37 ∧ hexv h1.toNat < 16 ∧ hexv l1.toNat < 16
    · rw [if_pos hc] at h
      cases h
      refine ⟨by simp, ?_⟩
      rw [dec, if_pos hc]; rfl
    · rw [if_neg hc] at h; cases h
theorem dec_none {c : UInt8} {r : List UInt8} (h : escL (c :: r) = none) : dec (c :: r) = c :: dec r := by
  match r, h with
  | [], _ => rfl
  | [d], _ => rfl
  | h1 :: l1 :: r, h =>
    simp only [escL] at h
    by_cases hc : c = 37 ∧ hexv h1.toNat < 16 ∧ hexv l1.toNat < 16
    · rw [if_pos hc] at h; cases h
    · rw [dec, if_neg hc]
theorem dec_nil : dec [] = [] := rfl
theorem hexv_le (n : Nat) : hexv n ≤ 16 := by unfold hexv; split <;> (try split) <;> (try split) <;> omega

/-! ### Case -/
def low (b : UInt8) : UInt8 := if 65 ≤ b.toNat ∧ b.toNat ≤ 90 then UInt8.ofNat (b.toNat + 32) else b
def upp (b : UInt8) : UInt8 := if 97 ≤ b.toNat ∧ b.toNat ≤ 122 then UInt8.ofNat (b.toNat - 32) else b
end Go.Proofs.YtnjnhgeafbofkaaDoor.M
