import Derived.Test.YtempmmkdppelaaaGreatDoorU3M
import Derived.Test.YtempmmkdppelaaaGreatDoorTie
import Derived.Test.YtempmmkdppelaaaGreatDoorCards
import Derived.ProofKit
import Derived.OpenShut
import Derived.LaidMore
import Derived.Lay
import Derived.SevenTiedAt
import Derived.Stop.Joined
import Derived.HandedShaped
import Derived.ShutString
import Derived.SizedLaws
import Derived.ChangeOld
import Derived.ChangeSame
import Derived.Below
import Derived.Deep.Slices
import Derived.Deep.Fields
import Derived.JoinedCond
/-
  The walk of CspHeaders.
-/
namespace Go.Proofs.YtempmmkdppelaaaGreatDoor
open Go.RowKit
theorem stepD_mod {st : Option (List Dir)} {p : List UInt8} (h : ∀ l, st = some l → l.length ≤ 64 ∧ ∀ x ∈ l, x.2.length ≤ 64) : ∀ l, stepD st p = some l → l.length ≤ 64 ∧ ∀ x ∈ l, x.2.length ≤ 64 := by
  intro l hl
  unfold stepD at hl
  cases st with
  | none => cases hl
  | some l0 =>
    have h0 := h l0 rfl
    simp only at hl
    split at hl
    · cases hl; exact h0
    · split at hl
      · cases hl; exact h0
      · split at hl
        · cases hl
        · rename_i hno
          cases hl
          refine ⟨by rw [List.length_append]; simp; omega, fun x hx => ?_⟩
          rcases List.mem_append.1 hx with hx | hx
          · exact h0.2 x hx
          · rw [List.mem_singleton] at hx; subst hx; simp only; omega
theorem partsD_mod (ps : List (List UInt8)) : ∀ l, partsD ps = some l → l.length ≤ 64 ∧ ∀ x ∈ l, x.2.length ≤ 64 := by
  unfold partsD
  suffices ∀ (ps : List (List UInt8)) (st : Option (List Dir)), (∀ l, st = some l → l.length ≤ 64 ∧ ∀ x ∈ l, x.2.length ≤ 64) → ∀ l, ps.foldl stepD st = some l → l.length ≤ 64 ∧ ∀ x ∈ l, x.2.length ≤ 64 from
    this ps (some []) (fun l hl => by cases hl; simp)
  intro ps
  induction ps with
  | nil => exact fun st h => h
  | cons p ps ih => exact fun st h => ih _ (stepD_mod h)
theorem parseP_mod {s : ByteArray} {l : List Dir} (h : parseP s = .ok l) : l.length ≤ 64 ∧ ∀ x ∈ l, x.2.length ≤ 64 := by
  unfold parseP at h
  split at h
  · cases h
  · split at h
    · cases h
    · rename_i hp; cases h
      exact partsD_mod _ _ hp
theorem mod_of {l : List Dir} (h : l.length ≤ 64 ∧ ∀ x ∈ l, x.2.length ≤ 64) : Mod l := ⟨by omega, fun x hx => by have := h.2 x hx; omega⟩
theorem foldH_mod (ps : List (List UInt8)) : ∀ l, foldH ps = .ok l → ∀ x ∈ l, Mod x := by
  unfold foldH
  suffices ∀ (ps : List (List UInt8)) (st : Except Nat (List (List Dir))), (∀ l, st = .ok l → ∀ x ∈ l, Mod x) → ∀ l, ps.foldl stepH st = .ok l → ∀ x ∈ l, Mod x from
    this ps (.ok []) (fun l hl => by cases hl; simp)
  intro ps
  induction ps with
  | nil => exact fun st h => h
  | cons p ps ih =>
    refine fun st h => ih _ ?_
    intro l hl
    unfold stepH at hl
    cases st with
    | error c => cases hl
    | ok out =>
      have h0 := h out rfl
      simp only at hl
      split at hl
      · cases hl
      · rename_i l1 hl1
        split at hl
        · cases hl
          intro x hx
          rcases List.mem_append.1 hx with hx | hx
          · exact h0 x hx
          · rw [List.mem_singleton] at hx; subst hx; exact mod_of (parseP_mod hl1)
        · cases hl; exact h0
def heC (st : Except Nat (List (List Dir))) : Nat := match st with | .error c => c | .ok _ => 0
def heL (st : Except Nat (List (List Dir))) : List (List Dir) := match st with | .error _ => [] | .ok l => l
theorem headP_mod (l : List ByteArray) : (heL (headP l)).length ≤ 64 ∧ ∀ x ∈ heL (headP l), Mod x := by
  unfold headP
  split
  · exact ⟨by simp [heL], by simp [heL]⟩
  · rename_i out h
    split
    · exact ⟨by simp [heL], by simp [heL]⟩
    · exact ⟨by simp only [heL]; omega, foldH_mod _ _ h⟩
theorem header_pols (lv : Value) (l : List ByteArray) (rep : Bool) (st : Except Nat (List (List Dir))) (hst : headP l = st) (hm : l.length ≤ 2097152) (hz : ∀ x ∈ l, x.size ≤ 2097152) (w : World) (hv : Strs w lv l) :
    Calls Tryz.prog 12 #[lv, .bool rep] w fun e w' => (∃ q c, e = .returned (.tuple #[.slice q (heL st).length c, .int .i64 (heC st)]) ∧ Pols w' rep (.slice q (heL st).length c) (heL st)) ∧ Below w.heap.size w w' := by
  refine ((callsIn_wide (n := 6)).1 (header_box 6 (Nat.le_refl _) lv l rep hm hz w hv)).mono ?_
  rintro e w' ⟨h, hb⟩
  refine ⟨?_, hb⟩
  rw [hst] at h
  cases st with
  | error c => exact ⟨none, 0, h, none, 0, rfl, fun i x hx => by simp [heL] at hx⟩
  | ok l' =>
    obtain ⟨v, ps, he, ho, hl⟩ := h
    have hp := ho.lies
    rw [← hl] at hp
    have hp' := hp
    obtain ⟨p, cap, hv', _⟩ := hp
    subst hv'
    exact ⟨p, cap, he, hp'⟩
theorem partsAt_join (c : UInt8) (a b : List UInt8) : Ks.partsAt c (a ++ c :: b) = Ks.partsAt c a ++ Ks.partsAt c b := by
  induction a with
  | nil => simp [Ks.partsAt]
  | cons x a ih =>
    rw [List.cons_append, Ks.partsAt, Ks.partsAt]
    by_cases h : x = c
    · rw [if_pos h, if_pos h, ih]; rfl
    · rw [if_neg h, if_neg h, ih]
      cases hp : Ks.partsAt c a with
      | nil => exact absurd hp (Ks.partsAt_ne c a)
      | cons y ys => rfl
theorem head_join (a b : ByteArray) : headP [a ++ ⟨#[44]⟩ ++ b] = headP [a, b] := by
  unfold headP
  have : partsH [a ++ ⟨#[44]⟩ ++ b] = partsH [a, b] := by
    unfold partsH
    simp only [List.flatMap_cons, List.flatMap_nil, List.append_nil, ByteArray.data_append, Array.toList_append]
    rw [List.append_assoc]
    exact partsAt_join 44 _ _
  rw [this]
theorem strs_two (w : World) (a b : ByteArray) : Strs (w.alloc (.cells #[.string a, .string b] 9)) (.slice (some ⟨w.heap.size, 0, none⟩) 2 2) [a, b] :=
  ⟨_, 2, rfl, fun i x hi => by
    refine ⟨w.heap.size, 0, rfl, by simp, ?_⟩
    match i, hi with
    | 0, hi => cases hi; exact (Has.new w _).cell 0 rfl
    | 1, hi => cases hi; exact (Has.new w _).cell 1 rfl
    | i + 2, hi => simp at hi⟩
theorem strs_one (w : World) (a : ByteArray) : Strs (w.alloc (.cells #[.string a] 9)) (.slice (some ⟨w.heap.size, 0, none⟩) 1 1) [a] :=
  ⟨_, 1, rfl, fun i x hi => by
    refine ⟨w.heap.size, 0, rfl, by simp, ?_⟩
    match i, hi with
    | 0, hi => cases hi; exact (Has.new w _).cell 0 rfl
    | i + 1, hi => simp at hi⟩
set_option maxHeartbeats 2000000 in
set_option maxRecDepth 100000 in
theorem CspHeaders_std (a b : ByteArray) (rep : Bool) (hab : a.size + b.size ≤ 1048576) (w : World) (hM : ML w) :
    Calls Tryz.prog 6 #[.string a, .string b, .bool rep] w fun e w' => e = .returned (.bool true) ∧ Below w.heap.size w w' := by
  have HL := Lib.hid (lives_is w hM)
  have i2 : ¬ 9223372036854775807 < a.size + 1 := by omega
  have i3 : ¬ 9223372036854775807 < a.size + 1 + b.size := by omega
  obtain ⟨st, hst⟩ : ∃ st, headP [a, b] = st := ⟨_, rfl⟩
  have hmod := headP_mod [a, b]
  rw [hst] at hmod
  have HH1 := Lib.hid (fun W : World => header_pols _ [a, b] rep st hst (by simp) (by intro x hx; simp only [List.mem_cons, List.mem_nil_iff, or_false] at hx; rcases hx with rfl | rfl <;> omega) _ (strs_two W a b))
  have HH2 := Lib.hid (fun W : World => header_pols _ [a ++ ⟨#[44]⟩ ++ b] rep st ((head_join a b).trans hst) (by simp) (by intro x hx; simp only [List.mem_cons, List.mem_nil_iff, or_false] at hx; subst hx; rw [ByteArray.size_append, ByteArray.size_append]; have : ByteArray.size ⟨#[44]⟩ = 1 := rfl; omega) _ (strs_one W _))
  generalize heC st = c at *
  generalize heL st = l at *
  have HMO := Lib.hid hmod
  clear hst hM hmod
  go_enter Tryz.func6, Tryz.ntmps6
  go_wp2_with (go_at_call 18; refine HL.out.mono ?_; rintro e w1 ⟨rfl, hb1⟩; have HB1 := Lib.hid hb1; clear hb1)
  refine (HH1.out _).mono ?_
  rintro e w2 ⟨⟨q1, c1, rfl, hp1⟩, hb2⟩
  have HB2 := Lib.hid ((HB1.out.alloc HB1.out.size (.cells #[.string a, .string b] 9)).trans (hb2.mono (by have := HB1.out.size; simp; omega)))
  have HP2 := Lib.hid hp1
  clear hb2 hp1 HB1
  go_wp2_with fail
  refine (HH2.out _).mono ?_
  rintro e w3 ⟨⟨q2, c2, rfl, hp2⟩, hb3⟩
  have HB3 := Lib.hid ((HB2.out.alloc HB2.out.size (.cells #[.string (a ++ ⟨#[44]⟩ ++ b)] 9)).trans (hb3.mono (by have := HB2.out.size; simp; omega)))
  have HP3 := Lib.hid ((HP2.out.to (bnew _ _)).to hb3)
  have HQ3 := Lib.hid hp2
  clear hb3 hp2 HB2 HP2
  have HSA := Lib.hid (sameAll_is _ _ rep l l (by have := HMO.out.1; omega) (by have := HMO.out.1; omega) HMO.out.2 HMO.out.2 w3 HP3.out HQ3.out true (by simp))
  go_wp2_with (go_at_call 20; refine HSA.out.mono ?_; rintro e w4 ⟨rfl, hb4⟩; have HB4 := Lib.hid (HB3.out.trans (hb4.mono HB3.out.size)); clear hb4)
  go_ret
  exact ⟨rfl, HB4.out⟩
end Go.Proofs.YtempmmkdppelaaaGreatDoor
/-
  What lifts this seat's walks to tied cards of the second form.
-/
namespace Go.Proofs.YtempmmkdppelaaaGreatDoor
open Go.ChangeShapes Go.WideShapes Go.ChangeAt Go.RowKit Go.Deep
theorem own : ownKnob Tryz.prog.godebug = none := by kernel_rfl
theorem laidOut : laidOutB Tryz.prog = true := by kernel_rfl
abbrev theLaid : List (String × DataW Unit) := Rows.cspHeadersRow.laid
theorem ml_of {W : World} (hsh : W.ShapedOpen Tryz.prog) : ML W := Tryz.laysM145.s1_3 W hsh
theorem met_laid (os : Os) (args : Array Value) : laidMetH Tryz.prog theLaid ((World.laidAll Tryz.prog os theLaid).forCall (fun _ _ => 0) ⟨#[], args, []⟩).memory := by
  rw [MakeChecks.laidMetH_plain _ _ _ (by kernel_rfl)]
  exact laidMet_laidAll _ (by kernel_rfl) (by kernel_rfl)
theorem wrapUpto {H : Type} {enc : TypeId × Value → H} {a : Assume} {C : Checked} {os : Os} {f : FuncId} {fn : Func} {s : OpenSpec} {k : (H : Type) → List (DataW H) → Bool} (hk : s.cond = some k) {F : Stop.Interp} {conds : List PathCond} {laid : List (String × DataW Unit)} {apart fresh handsOn again : Bool}
    (own : ownKnob C.prog.godebug = none) (started : os.Started) (noInit : C.prog.inits.idxOf? f = none) (hfn : C.prog.funcs[f]? = some fn)
    (witness : ∃ (w : World) (tape : Tape) (i : Input), w.os = os ∧ (w.forCall tape i).Shaped C.prog ∧ i.vars = [] ∧ Input.okWide C.prog (w.forCall tape i) .any w.heap.size f i ∧
      s.preRow enc C.prog fn conds apart laid (w.forCall tape i).memory i.args ∧ a.holds C.prog (lone (Frame.enter C.prog f i.args .normal) [] (w.forCall tape i)))
    (contract : ∀ (W : World) (base : Nat) (args : Array Value) (ds gs : List (DataW H)) (before : List MemPlace),
      (∀ (j : Nat) t v, fn.params[j]? = some t → args[j]? = some v → Value.okWide C.prog W .any base t v) →
      DataW.Whole enc C.prog fn.params.toList s.vars apart W args.toList ds gs before → k H (ds ++ gs) = true →
      (DataW.weightsEach C.prog (fn.params.toList ++ s.bare.plain.varTypes C.prog) (ds ++ gs)).all (· ≤ reachBytes) = true → W.ShapedOpen C.prog → laidMetH C.prog laid W →
      Calls C.prog f args W fun e W' => ∃ v, e = .returned v ∧ (s.at F).post enc C.prog fn apart fresh handsOn again W args v W') :
    ReturnsInHanded a C os f .any (s.preRow enc C.prog fn conds apart laid) ((s.at F).post enc C.prog fn apart fresh handsOn again) := by
  refine returnsInHanded_of_calls own started noInit witness ?_
  intro w tape i _ hsh _ hok hpre _
  obtain ⟨_, _, _, fn', hfn', _, _, _, _, hval⟩ := hok
  have e : fn' = fn := Option.some.inj (hfn'.symm.trans hfn)
  subst e
  obtain ⟨⟨hp, hl⟩, hz⟩ := hpre
  obtain ⟨ds, gs, before, hw, _, hkk⟩ := (OpenSpec.pre_some hk conds apart _ _).1 hp
  have hw' := DataW.Whole.of_heap (w' := w.forCall tape i) (by rfl) hw
  refine (contract (w.forCall tape i) w.heap.size i.args ds gs before hval hw' hkk (hz.weights hw) hsh (hl.of_heap (by rfl))).mono fun e W' ⟨v, he, hp⟩ => ?_
  subst he
  exact ChangeSpec.post_blind hp
theorem witUpto {H : Type} {enc : TypeId × Value → H} {C : Checked} {os : Os} {f : FuncId} {fn : Func} {s : OpenSpec} {k : (H : Type) → List (DataW H) → Bool} (hk : s.cond = some k) {conds : List PathCond} {laid : List (String × DataW Unit)} {apart : Bool} (modest : Bool) (w0 : World) (args : Array Value) (fuel : Nat) (hos : w0.os = os)
    (hsh : (w0.forCall (fun _ _ => 0) ⟨#[], args, []⟩).Shaped C.prog)
    (hok : Input.okWideB C.prog (w0.forCall (fun _ _ => 0) ⟨#[], args, []⟩) f ⟨#[], args, []⟩ = true)
    {x : List (DataW H) × List (DataW H) × List MemPlace} (hx : DataW.whole enc C.prog (w0.forCall (fun _ _ => 0) ⟨#[], args, []⟩).memory fn.params.toList s.vars apart args.toList fuel = some x)
    (hconds : conds.all (PathCond.test C.prog ⟨fn.params.toList, x.1, s.bare.plain.varTypes C.prog, x.2.1⟩) = true) (hkk : k H (x.1 ++ x.2.1) = true)
    (hsz : s.bare.sizedB enc C.prog fn apart (w0.forCall (fun _ _ => 0) ⟨#[], args, []⟩).memory args fuel = true)
    (hl : laidMetH C.prog laid (w0.forCall (fun _ _ => 0) ⟨#[], args, []⟩).memory) :
    ∃ (w : World) (tape : Tape) (i : Input), w.os = os ∧ (w.forCall tape i).Shaped C.prog ∧ i.vars = [] ∧ Input.okWide C.prog (w.forCall tape i) .any w.heap.size f i ∧
      s.preRow enc C.prog fn conds apart laid (w.forCall tape i).memory i.args ∧ ({ modest := modest } : Assume).holds C.prog (lone (Frame.enter C.prog f i.args .normal) [] (w.forCall tape i)) :=
  ⟨w0, fun _ _ => 0, ⟨#[], args, []⟩, hos, hsh, (Input.okWide_of_okWideB (base := 0) hok).1, (Input.okWide_of_okWideB hok).2,
    OpenSpec.preRow_of_cond fuel hx hconds (fun k' h' => by rw [hk] at h'; cases h'; exact hkk) hsz hl, by
    simp only [Assume.holds]
    exact ⟨by simp, by simp, fun _ => Modest.zero, by simp, by simp⟩⟩
theorem bulk_mem {H : Type} : ∀ {ds : List (DataW H)} {d : DataW H}, d ∈ ds → Rows.uptoBulk d ≤ Rows.uptoBulkAll ds
  | d0 :: ds, d, hd => by
    rw [Rows.uptoBulkAll]
    rcases List.mem_cons.1 hd with rfl | hd
    · omega
    · have := bulk_mem hd; omega
theorem bulk_pos {H : Type} (d : DataW H) : 1 ≤ Rows.uptoBulk d := by
  cases d with
  | lit l => cases l <;> simp [Rows.uptoBulk]
  | _ => simp [Rows.uptoBulk]
theorem bulk_len {H : Type} : ∀ (ds : List (DataW H)), ds.length ≤ Rows.uptoBulkAll ds
  | [] => by simp
  | d :: ds => by rw [Rows.uptoBulkAll, List.length_cons]; have := bulk_len ds; have := bulk_pos d; omega
theorem open_bool {H : Type} {enc : TypeId × Value → H} {P : Program} {w : World} {base : Nat} {sp : Nat → Bool} {held : Bool} {r : Reach} {b0 : Nat} {t : TypeId} {v : Value} {d : DataW H} {ps : List MemPlace} (ht : P.underlying t = some .bool) (hval : Value.okWide P w r b0 t v) (hd : DataW.Trod enc P w base sp held t v d ps) :
    ∃ b : Bool, v = .bool b ∧ d = .lit (.bool b) ∧ ps = [] := by
  obtain ⟨b, rfl⟩ := okWide_bool ht hval
  obtain ⟨fuel, hf⟩ := hd
  obtain ⟨b', h, hx⟩ := DataW.trod_bool ht hf
  simp [Value.cells] at h
  subst h
  simp only [Prod.mk.injEq] at hx
  exact ⟨b, rfl, hx.1, hx.2⟩
end Go.Proofs.YtempmmkdppelaaaGreatDoor
