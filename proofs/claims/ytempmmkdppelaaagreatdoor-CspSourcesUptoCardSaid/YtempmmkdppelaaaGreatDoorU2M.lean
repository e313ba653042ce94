import Derived.Test.YtempmmkdppelaaaGreatDoorT4M
import Derived.Test.YtempmmkdppelaaaGreatDoorD9M
/-
  The document's Same.
-/
namespace Go.Proofs.YtempmmkdppelaaaGreatDoor
open Go.RowKit
/-- two policies are one -/
def sameP (ra : Bool) (la : List Dir) (rb : Bool) (lb : List Dir) : Bool := decide (ra = rb) && decide (la = lb)
theorem sameD_iff (a b : Dir) : sameD a b = true ↔ a = b := by
  unfold sameD
  rw [Bool.and_eq_true, decide_eq_true_iff, decide_eq_true_iff, Prod.ext_iff]
/-- lists of directives that are not beyond all bounds -/
def Mod (l : List Dir) : Prop := l.length ≤ 4294967296 ∧ ∀ x ∈ l, x.2.length ≤ 140737488355328
set_option maxHeartbeats 2000000 in
set_option maxRecDepth 100000 in
theorem same14_is (va vb : Value) (la lb : List Dir) (ra rb : Bool) (ma : Mod la) (mb : Mod lb) (w : World) (ha : Dirs w va la) (hb : Dirs w vb lb) (r : Bool) (hr : sameP ra la rb lb = r) :
    Calls Tryz.prog 19 #[.agg #[va, .bool ra], .agg #[vb, .bool rb]] w fun e w' => e = .returned (.bool r) ∧ Below w.heap.size w w' := by
  have ha0 := ha
  have hb0 := hb
  obtain ⟨pa, ca, rfl, hca, _⟩ := ha
  obtain ⟨pb, cb, rfl, hcb, _⟩ := hb
  obtain ⟨X, hX⟩ : ∃ X, (w.alloc (.cells #[.slice pa la.length ca, .bool ra] 25)).alloc (.cells #[.slice pb lb.length cb, .bool rb] 25) = X := ⟨_, rfl⟩
  have hB0 : Below w.heap.size w X := hX ▸ (bnew w _).alloc (by simp) _
  have hs0 : X.heap.size = w.heap.size + 2 := by rw [← hX]; simp
  have h0 : Has X w.heap.size (.cells #[.slice pa la.length ca, .bool ra] 25) := hX ▸ (Has.new w _).alloc _
  have h1 : Has X (w.heap.size + 1) (.cells #[.slice pb lb.length cb, .bool rb] 25) := by
    have := Has.new (w.alloc (.cells #[.slice pa la.length ca, .bool ra] 25)) (.cells #[.slice pb lb.length cb, .bool rb] 25)
    rw [hX, World.size_alloc] at this; exact this
  have hDA := ha0.to hB0
  have hDB := hb0.to hB0
  obtain ⟨n, hn⟩ : ∃ n, la.length = n := ⟨_, rfl⟩
  rw [hn] at hX h0 hDA hca ⊢
  have H0 := Lib.hid h0
  have H1 := Lib.hid h1
  have HB := Lib.hid hB0
  have HR := Lib.hid hr
  have HDA := Lib.hid hDA
  have HDB := Lib.hid hDB
  have HMA := Lib.hid ma
  have HMB := Lib.hid mb
  have a0 := h0.cell 0 rfl
  have a1 := h0.cell 1 rfl
  have b0 := h1.cell 0 rfl
  have b1 := h1.cell 1 rfl
  have mn : n ≤ 4294967296 := by rw [← hn]; exact ma.1
  clear ha0 hb0 hB0 h0 h1 hDA hDB hr ma mb
  by_cases hrr : ra = rb
  · subst hrr
    have g1 : (ra == ra) = true := by simp
    have g1' : (ra != ra) = false := by simp
    by_cases hne : n = lb.length
    · rw [← hne] at hX b0 H1 HDB hcb ⊢
      have HN := Lib.hid (And.intro hn hne)
      have g2 : ((n : Int) != (n : Int)) = false := by simp
      clear hn hne
      have hm0 : Tryz.prog.follows .mixedOrders = true := by kernel_rfl
      go_enter Tryz.func19, Tryz.ntmps19
      go_wp2_with fail
      clear hX
      go_loopw [23] (fun i wr => ∃ k : Nat, k ≤ n ∧ i = .int .i64 k ∧ Hid (∀ (j : Nat) x y, j < k → la[j]? = some x → lb[j]? = some y → x = y) ∧ Hid (Below X.heap.size X wr)) (fun i _ => n - (intOf i).toNat)
      case atStart => exact ⟨0, by omega, rfl, Lib.hid (fun j x y hj => by omega), Lib.hid (Below.refl _ _)⟩
      case round =>
        obtain ⟨k, hk, rfl, HE, HW⟩ := hrel
        by_cases hlt : k < n
        · have hka : k < la.length := by rw [HN.out.1]; exact hlt
          have hkb : k < lb.length := by rw [← HN.out.2]; exact hlt
          obtain ⟨p', c', e', _, hA⟩ := HDA.out.to HW.out
          simp only [Value.slice.injEq] at e'
          obtain ⟨rfl, -, rfl⟩ := e'
          obtain ⟨g, o, vx, rfl, hg, hx, hy, hz⟩ := hA k la[k] (getT hka)
          obtain ⟨p'', c'', e'', _, hB⟩ := HDB.out.to HW.out
          simp only [Value.slice.injEq] at e''
          obtain ⟨rfl, -, rfl⟩ := e''
          obtain ⟨g', o', vy, rfl, hg', hx', hy', hz'⟩ := hB k lb[k] (getT hkb)
          have i1 : (k : Int) < (n : Int) := by omega
          have HS := Lib.hid (show la[k] = lb[k] → ∀ (j : Nat) x y, j < k + 1 → la[j]? = some x → lb[j]? = some y → x = y from fun e j x y hj h1 h2 => by
            by_cases hjk : j = k
            · subst hjk; rw [getT hka] at h1; rw [getT hkb] at h2; cases h1; cases h2; exact e
            · exact HE.out j x y (by omega) h1 h2)
          have HF := Lib.hid (show ¬ la[k] = lb[k] → r = false from fun e => by
            rw [← HR.out]
            unfold sameP
            rw [decide_eq_false (p := la = lb) (fun h => e (by subst h; rfl)), Bool.and_false])
          have HZ := Lib.hid hz
          have HZ' := Lib.hid hz'
          have mla := HMA.out.2 la[k] (List.getElem_mem hka)
          have mlb := HMB.out.2 lb[k] (List.getElem_mem hkb)
          clear hA hB HE
          generalize la[k] = x at *
          generalize lb[k] = y at *
          clear hka hkb
          obtain ⟨xn, xv⟩ := x
          obtain ⟨yn, yv⟩ := y
          obtain ⟨q, cq, rfl, _⟩ := hz
          obtain ⟨q', cq', rfl, _⟩ := hz'
          have HSD := Lib.hid (fun (r : Bool) (hr : sameD (xn, xv) (yn, yv) = r) (W : World) (h : Below wr.heap.size wr W) => sameDirective_is (.slice q xv.length cq) (.slice q' yv.length cq') (xn, xv) (yn, yv) mla mlb W (HZ.out.to h) (HZ'.out.to h) r hr)
          have hrX := HW.out.size
          have k0 : ∀ p : Later wr, p.v.cell? ⟨w.heap.size, 0, none⟩ = some (.slice (some ⟨g, o, none⟩) n ca) := fun p => p.c ((HW.out.cell (p := ⟨w.heap.size, 0, none⟩) (show w.heap.size < X.heap.size by omega)).trans a0) (by omega)
          have k1 : ∀ p : Later wr, p.v.cell? ⟨w.heap.size + 1, 0, none⟩ = some (.slice (some ⟨g', o', none⟩) n cb) := fun p => p.c ((HW.out.cell (p := ⟨w.heap.size + 1, 0, none⟩) (show w.heap.size + 1 < X.heap.size by omega)).trans b0) (by omega)
          have k2 : ∀ p : Later wr, p.v.cell? ⟨g, o + k * 2, none⟩ = some (.string xn) := fun p => p.c hx hg
          have k3 : ∀ p : Later wr, p.v.cell? ⟨g, o + k * 2 + 1, none⟩ = some (.slice q xv.length cq) := fun p => p.c hy hg
          have k4 : ∀ p : Later wr, p.v.cell? ⟨g', o' + k * 2, none⟩ = some (.string yn) := fun p => p.c hx' hg'
          have k5 : ∀ p : Later wr, p.v.cell? ⟨g', o' + k * 2 + 1, none⟩ = some (.slice q' yv.length cq') := fun p => p.c hy' hg'
          obtain ⟨b, hb⟩ : ∃ b, sameD (xn, xv) (yn, yv) = b := ⟨_, rfl⟩
          have HSB := Lib.hid (HSD.out b hb)
          clear HSD hx hy hx' hy'
          cases b with
          | true =>
            have HS2 := Lib.hid (HS.out ((sameD_iff _ _).1 hb))
            clear HS HF hb
            go_wp2_with fail
            refine wp_region_quiet_later (by assumption) (by kernel_rfl) ?_
            repeat (go_big_quiet_step ((go_at_call 23; exact Calls.later_of (HSB.out _ (Later.h _)))))
            refine wpQuiet_nil ?_
            rintro w2 ⟨⟨_, h2⟩, rfl⟩
            go_wp2
            go_roundw
            case rel => exact ⟨k + 1, by omega, by go_num, HS2, Lib.hid (HW.out.trans (h2.mono hrX))⟩
            case measure => simp [intOf]; omega
          | false =>
            have HF2 := Lib.hid (HF.out fun h => by rw [(sameD_iff _ _).2 h] at hb; cases hb)
            clear HS HF hb
            go_wp2_with fail
            refine wp_region_quiet_later (by assumption) (by kernel_rfl) ?_
            repeat (go_big_quiet_step ((go_at_call 23; exact Calls.later_of (HSB.out _ (Later.h _)))))
            refine wpQuiet_nil ?_
            rintro w2 ⟨⟨_, h2⟩, rfl⟩
            go_wp2
            go_ret
            exact ⟨ret_bool HF2.out.symm, HB.out.trans ((HW.out.trans (h2.mono hrX)).mono (by omega))⟩
        · have HT := Lib.hid (show r = true by
            rw [← HR.out]
            unfold sameP
            rw [decide_eq_true rfl, Bool.true_and]
            exact decide_eq_true (eq_of_get (HN.out.1.trans HN.out.2) fun j x y hj h1 h2 => HE.out j x y (by rw [HN.out.1] at hj; omega) h1 h2))
          have hkn : k = n := by omega
          clear HE
          go_wp2_with fail
          go_ret
          exact ⟨ret_bool HT.out.symm, HB.out.trans (HW.out.mono (by omega))⟩
    · have g2 : ((n : Int) != (lb.length : Int)) = true := by rw [bne_iff_ne]; omega
      have HF := Lib.hid (show r = false by
        rw [← HR.out]
        unfold sameP
        rw [decide_eq_false (p := la = lb) (fun h => hne (by rw [← hn, h])), Bool.and_false])
      clear hn hne
      go_enter Tryz.func19, Tryz.ntmps19
      go_wp2_with fail
      go_ret
      exact ⟨ret_bool HF.out.symm, HB.out⟩
  · have HF := Lib.hid (show r = false by
      rw [← HR.out]
      unfold sameP
      rw [decide_eq_false hrr, Bool.false_and])
    have g1 : (ra == rb) = false := beq_eq_false_iff_ne.2 hrr
    have g1' : (ra != rb) = true := by rw [bne_iff_ne]; exact hrr
    clear hrr
    go_enter Tryz.func19, Tryz.ntmps19
    go_wp2_with fail
    go_ret
    exact ⟨ret_bool HF.out.symm, HB.out⟩
end Go.Proofs.YtempmmkdppelaaaGreatDoor
/-
  csp's Parse, whatever the text.
-/
namespace Go.Proofs.YtempmmkdppelaaaGreatDoor
open Go.RowKit Go.Shelf
set_option maxHeartbeats 1000000 in
theorem parse_long (u : ByteArray) (rep : Bool) (hu : 4096 < u.size) (hm : u.size ≤ 281474976710656) (w : World) :
    Calls Tryz.prog 10 #[.string u, .bool rep] w fun e w' => e = .returned (.tuple #[polV (.slice none 0 0) false, .int .i64 4]) ∧ Below w.heap.size w w' := by
  have g1 : decide ((4096 : Int) < (u.size : Int)) = true := by simp; omega
  have HB := Lib.hid (show Below w.heap.size w ((w.alloc (.cells #[.slice none 0 0, .bool false] 25)).alloc (.cells #[.int .i64 4] 26)) from ((Below.refl _ w).alloc (Nat.le_refl _) _).alloc (by simp) _)
  go_enter Tryz.func10, Tryz.ntmps10
  go_wp2
  refine bodyPost_ret (v := .tuple #[polV (.slice none 0 0) false, .int .i64 4]) ?_ rfl ⟨rfl, HB.out⟩
  simp [results, Tryz.results10, go_sem]
  rfl
/-- what Parse answers, whatever the text -/
def parseP (s : ByteArray) : Except Nat (List Dir) := if 4096 < s.size then .error 4 else match parseD s.data.toList with
  | none => .error 3
  | some l => .ok l
/-- a policy that a call has made, or an error -/
def PolRet (w : World) (rep : Bool) (st : Except Nat (List Dir)) (e : Ending) (w' : World) : Prop :=
  (match st with
   | .error c => e = .returned (.tuple #[polV (.slice none 0 0) false, .int .i64 c])
   | .ok l => ∃ v rs, e = .returned (.tuple #[polV v rep, .int .i64 0]) ∧ OwnD w' w.heap.size v rs ∧ l = rs.map RD.dir ∧ rs.length ≤ 64) ∧ Below w.heap.size w w'
theorem parse_is (u : ByteArray) (rep : Bool) (hm : u.size ≤ 281474976710656) (w : World) : Calls Tryz.prog 10 #[.string u, .bool rep] w (PolRet w rep (parseP u)) := by
  unfold parseP PolRet
  by_cases h : 4096 < u.size
  · rw [if_pos h]; exact parse_long u rep h hm w
  · rw [if_neg h]
    refine ((callsIn_wide (n := 6)).1 (parse_box 6 (Nat.le_refl _) u rep (by omega) w)).mono ?_
    rintro e w' ⟨h1, h2⟩
    refine ⟨?_, h2⟩
    cases hp : parseD u.data.toList with
    | none => rw [hp] at h1; exact h1
    | some l => rw [hp] at h1; exact h1
end Go.Proofs.YtempmmkdppelaaaGreatDoor
/-
  csp's Header: lists of policies in memory, marks among deferred calls.
-/
namespace Go.Proofs.YtempmmkdppelaaaGreatDoor
open Go.RowKit Go.Shelf
/-- what has cells lies as it lay -/
def Cells (W W' : World) : Prop := W.heap.size ≤ W'.heap.size ∧ ∀ (k : Nat) (o : Obj), W.heap[k]? = some o → o.isCells = true → W'.heap[k]? = some o
theorem Cells.refl (W : World) : Cells W W := ⟨Nat.le_refl _, fun _ _ h _ => h⟩
theorem Cells.has {W W' : World} (h : Cells W W') {k : Nat} {cs : Array Value} {t : TypeId} (hk : Has W k (.cells cs t)) : Has W' k (.cells cs t) := h.2 k _ hk rfl
theorem Cells.own {W W' : World} (h : Cells W W') {D e size n : Nat} {v : Value} {xs : List Value} (ho : W.ownsRow D e size v n xs) : W'.ownsRow D e size v n xs := by
  refine ⟨ho.1, ho.2.imp id ?_⟩
  rintro ⟨g, cap, cur, h1, h2, h3, h4⟩
  exact ⟨g, cap, cur, h1, h2, h.2 g _ h3 rfl, h4⟩
def mark (D : Nat) : Deferred := { target := .collected D, args := #[] }
theorem leaves_marks {F : Fence} {n : Nat} {P : Program} {fn : Func} {tmps : Array Value} {R : Ending → World → Prop} : ∀ (ds : List Nat) (W : World), ds.Nodup → (∀ D ∈ ds, Has W D (.deferred (some []))) →
    (∀ W', Cells W W' → (∀ (B : Nat) (w0 : World), (∀ D ∈ ds, B ≤ D) → Below B w0 W → Below B w0 W') → LeavesIn F n P fn tmps R [] .returning W') → LeavesInM F n P fn tmps R (ds.map mark) .returning W
  | [], W, _, _, h => h W (Cells.refl W) (fun _ _ _ h => h)
  | D :: ds, W, hn, hm, h => by
    have hD := hm D (by simp)
    rw [List.nodup_cons] at hn
    refine ⟨by simp, .inl ⟨D, _, rfl, run_takeDeferred hD, leaves_marks ds _ hn.2 ?_ ?_⟩⟩
    · intro E hE
      exact (World.putObj_heap_other (fun e => by subst e; exact hn.1 hE)).trans (hm E (by simp [hE]))
    · intro W' hc hb
      refine h W' ⟨?_, ?_⟩ ?_
      · have := hc.1
        simp only [World.putObj, Array.size_setIfInBounds] at this; exact this
      · intro k o hk ho
        refine hc.2 k o ((World.putObj_heap_other ?_).trans hk) ho
        intro e; subst e
        rw [show W.heap[k]? = _ from hD] at hk; cases hk; cases ho
      · intro B w0 hB h0
        refine hb B w0 (fun E hE => hB E (by simp [hE])) ⟨h0.os, h0.tape, h0.output, ?_, fun k hk => ?_⟩
        · have := h0.size; simp only [World.putObj, Array.size_setIfInBounds]; exact this
        · have := hB D (by simp)
          exact (World.putObj_heap_other (by omega)).trans (h0.block k hk)
/-- a policy's cells: where its directives lie, and they -/
structure RP where
  v : Value
  rs : List RD
def RP.pol (p : RP) : List Dir := p.rs.map RD.dir
def encP (rep : Bool) (l : List RP) : List Value := l.flatMap fun p => [p.v, .bool rep]
theorem encP_len (rep : Bool) (l : List RP) : (encP rep l).length = l.length * 2 := by
  induction l with
  | nil => rfl
  | cons x l ih => unfold encP at ih ⊢; rw [List.flatMap_cons, List.length_append, ih]; simp; omega
theorem encP_snoc (rep : Bool) (l : List RP) (p : RP) : encP rep (l ++ [p]) = encP rep l ++ [p.v, .bool rep] := by unfold encP; rw [List.flatMap_append]; simp
theorem info25f : (Tryz.prog.info? 25).map (fun i => (i.zero, i.size, i.bytes)) = some (some (.agg #[.slice none 0 0, .bool false]), 2, 32) := by kernel_rfl
/-- a list of policies, of the call's own -/
structure OwnP (W : World) (D : Nat) (rep : Bool) (v : Value) (ps : List RP) : Prop where
  row : W.ownsRow D 25 2 v ps.length (encP rep ps)
  pols : ∀ p ∈ ps, OwnD W D p.v p.rs
theorem OwnD.cells {W W' : World} (h : Cells W W') {D : Nat} {v : Value} {rs : List RD} (ho : OwnD W D v rs) : OwnD W' D v rs := ⟨h.own ho.row, fun r hr => h.own (ho.vals r hr)⟩
theorem OwnP.cells {W W' : World} (h : Cells W W') {D : Nat} {rep : Bool} {v : Value} {ps : List RP} (ho : OwnP W D rep v ps) : OwnP W' D rep v ps := ⟨h.own ho.row, fun p hp => (ho.pols p hp).cells h⟩
theorem OwnP.to {W W' : World} {D : Nat} {rep : Bool} {v : Value} {ps : List RP} (h : OwnP W D rep v ps) (hb : Below W.heap.size W W') : OwnP W' D rep v ps := ⟨own_to h.row hb, fun p hp => (h.pols p hp).to hb⟩
theorem ownD_base {W : World} {D D' : Nat} {v : Value} {rs : List RD} (h : OwnD W D v rs) (hD : D' ≤ D) : OwnD W D' v rs := ⟨own_base h.row hD, fun r hr => own_base (h.vals r hr) hD⟩
theorem ownP_base {W : World} {D D' : Nat} {rep : Bool} {v : Value} {ps : List RP} (h : OwnP W D rep v ps) (hD : D' ≤ D) : OwnP W D' rep v ps := ⟨own_base h.row hD, fun p hp => ownD_base (h.pols p hp) hD⟩
/-- none of it lies in block bx -/
structure OffP (bx : Nat) (v : Value) (ps : List RP) : Prop where
  row : v.ownBlock ≠ some bx
  pols : ∀ p ∈ ps, p.v.ownBlock ≠ some bx ∧ ∀ r ∈ p.rs, r.val.ownBlock ≠ some bx
theorem own_off {W : World} {D e size n : Nat} {v : Value} {xs : List Value} (h : W.ownsRow D e size v n xs) {bx : Nat} (hb : bx < D ∨ W.heap.size ≤ bx) : v.ownBlock ≠ some bx := by
  rcases h.2 with ⟨rfl, _⟩ | ⟨g, cap, cur, rfl, hD, hg, _⟩
  · simp [Value.ownBlock]
  · have := (Array.getElem?_eq_some_iff.1 hg).1
    intro e
    have : g = bx := by simpa [Value.ownBlock] using e
    omega
theorem ownD_off {W : World} {D : Nat} {v : Value} {rs : List RD} (h : OwnD W D v rs) {bx : Nat} (hb : bx < D ∨ W.heap.size ≤ bx) : v.ownBlock ≠ some bx ∧ ∀ r ∈ rs, r.val.ownBlock ≠ some bx :=
  ⟨own_off h.row hb, fun r hr => own_off (h.vals r hr) hb⟩
theorem OwnP.off {W : World} {D : Nat} {rep : Bool} {v : Value} {ps : List RP} (h : OwnP W D rep v ps) {bx : Nat} (hb : W.heap.size ≤ bx) : OffP bx v ps :=
  ⟨own_off h.row (.inr hb), fun p hp => ownD_off (h.pols p hp) (.inr hb)⟩
theorem own_keep2 {A C : World} {row : Option Nat} {B bx D e size n : Nat} {v : Value} {xs : List Value} (hg : A.grownBy C row) (hr : OnlyBx B bx A C row) (hD : v.ownBlock ≠ some bx) (h : A.ownsRow D e size v n xs) : C.ownsRow D e size v n xs := by
  refine h.kept hg ?_
  rcases h.2 with ⟨rfl, _⟩ | ⟨g, cap, cur, rfl, hDg, hgb, _⟩
  · exact .inl rfl
  · refine .inr fun e' => ?_
    rcases hr g (by simpa [Value.ownBlock] using e'.symm) with ⟨_, o, ho, hc⟩ | ⟨e2, _⟩
    · rw [hgb] at ho; cases ho; cases hc
    · subst e2; exact hD rfl
theorem ownP_keep {A C : World} {row : Option Nat} {B bx D : Nat} {rep : Bool} {v : Value} {ps : List RP} (hg : A.grownBy C row) (hr : OnlyBx B bx A C row) (ho : OffP bx v ps) (h : OwnP A D rep v ps) : OwnP C D rep v ps :=
  ⟨own_keep2 hg hr ho.row h.row, fun p hp => ⟨own_keep2 hg hr (ho.pols p hp).1 (h.pols p hp).row, fun r hr' => own_keep2 hg hr ((ho.pols p hp).2 r hr') ((h.pols p hp).vals r hr')⟩⟩
/-- one policy more -/
theorem ownP_more {w5 W : World} {D : Nat} {rep : Bool} {v v' : Value} {ps : List RP} {p : RP} (h : OwnP W D rep v ps) (hr : OwnD W D p.v p.rs)
    (hg : W.grownBy w5 v.ownBlock) (hown : w5.ownsRow D 25 2 v' (ps.length + 1) (encP rep ps ++ [p.v, .bool rep])) : OwnP w5 D rep v' (ps ++ [p]) := by
  have keep : ∀ {u : Value} {e size n : Nat} {xs : List Value}, e ≠ 25 → W.ownsRow D e size u n xs → w5.ownsRow D e size u n xs := by
    intro u e size n xs he hu
    refine hu.kept hg ?_
    rcases hu.2 with ⟨rfl, _⟩ | ⟨g, cap, cur, rfl, _, hgb, _⟩
    · exact .inl rfl
    · refine .inr fun e' => ?_
      rcases h.row.2 with ⟨rfl, _⟩ | ⟨g2, cap2, cur2, rfl, _, hgb2, _⟩
      · simp [Value.ownBlock] at e'
      · have : g = g2 := by simpa [Value.ownBlock] using e'
        subst this
        rw [hgb] at hgb2; cases hgb2; exact he rfl
  have keepD : ∀ {u : Value} {rs : List RD}, OwnD W D u rs → OwnD w5 D u rs := fun hu => ⟨keep (by decide) hu.row, fun r hr => keep (by decide) (hu.vals r hr)⟩
  refine ⟨?_, ?_⟩
  · rw [List.length_append, encP_snoc]; exact hown
  · intro x hx
    rcases List.mem_append.1 hx with h1 | h1
    · exact keepD (h.pols x h1)
    · rw [List.mem_singleton] at h1; subst h1; exact keepD hr
theorem ownP_set {W : World} {D : Nat} {rep : Bool} {v : Value} {ps : List RP} (h : OwnP W D rep v ps) {p : Addr} (hb : p.block < D) (u : Value) : OwnP (W.setCell p u) D rep v ps :=
  ⟨own_set_under h.row hb u, fun q hq => ⟨own_set_under (h.pols q hq).row hb u, fun r hr => own_set_under ((h.pols q hq).vals r hr) hb u⟩⟩
/-- one part more: what has been read, or why not -/
def stepH (st : Except Nat (List (List Dir))) (p : List UInt8) : Except Nat (List (List Dir)) :=
  match st with
  | .error c => .error c
  | .ok out => match parseP ⟨p.toArray⟩ with
    | .error c => .error c
    | .ok l => if 0 < l.length ∧ out.length ≤ 64 then .ok (out ++ [l]) else .ok out
def foldH (ps : List (List UInt8)) : Except Nat (List (List Dir)) := ps.foldl stepH (.ok [])
theorem foldH_snoc (ps : List (List UInt8)) (p : List UInt8) : foldH (ps ++ [p]) = stepH (foldH ps) p := by unfold foldH; rw [List.foldl_append]; rfl
theorem foldH_error {ps : List (List UInt8)} {c : Nat} (h : foldH ps = .error c) (t : List (List UInt8)) : foldH (ps ++ t) = .error c := by
  unfold foldH at *
  rw [List.foldl_append, h]
  induction t with
  | nil => rfl
  | cons x t ih => exact ih
/-- all parts of some texts -/
def partsH (l : List ByteArray) : List (List UInt8) := l.flatMap fun s => Ks.partsAt 44 s.data.toList
/-- what Header answers -/
def headP (l : List ByteArray) : Except Nat (List (List Dir)) := match foldH (partsH l) with
  | .error c => .error c
  | .ok out => if 64 < out.length then .error 3 else .ok out
end Go.Proofs.YtempmmkdppelaaaGreatDoor
