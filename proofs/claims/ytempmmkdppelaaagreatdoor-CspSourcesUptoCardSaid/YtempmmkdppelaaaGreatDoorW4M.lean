import Derived.Test.YtempmmkdppelaaaGreatDoorV9M
import Derived.Test.YtempmmkdppelaaaGreatDoorU3M
import Derived.Test.YtempmmkdppelaaaGreatDoorTie
import Derived.Test.YtempmmkdppelaaaGreatDoorCards
import Derived.ProofKit
import Derived.OpenShut
import Derived.LaidMore
import Derived.Lay
import Derived.SevenTiedAt
import Derived.Stop.Joined
import Derived.HandedShaped
import Derived.ShutString
import Derived.SizedLaws
import Derived.ChangeOld
import Derived.ChangeSame
import Derived.Below
import Derived.Deep.Slices
import Derived.Deep.Fields
import Derived.JoinedCond
/-
  The walk of CspSources.
-/
namespace Go.Proofs.YtempmmkdppelaaaGreatDoor
open Go.RowKit
def srcY (st : Except Nat Src) : Src := match st with | .error _ => {} | .ok x => x
def srcN (st : Except Nat Src) : Nat := match st with | .error c => c | .ok _ => 0
theorem src_yn {st : Except Nat Src} {w w' : World} {e : Ending} (h : SrcRet st w e w') : e = .returned (.tuple #[(srcY st).v, .int .i64 (srcN st)]) ∧ Below w.heap.size w w' := by
  cases st with
  | error c => exact h
  | ok x => exact h
set_option maxHeartbeats 4000000 in
set_option maxRecDepth 100000 in
theorem CspSources_std (s : ByteArray) (lq : Option Addr) (lc : Nat) (ls : List ByteArray) (hls : ls.length ≤ 1048576 ∧ ∀ x ∈ ls, x.size ≤ 1048576) (hs : s.size ≤ 1048576) (w : World) (hlv : Strs w (.slice lq ls.length lc) ls) (hM : ML w) :
    Calls Tryz.prog 4 #[.string s, .slice lq ls.length lc] w fun e w' => e = .returned (.bool true) ∧ Below w.heap.size w w' := by
  have h24 : ∀ W : World, ML W → Calls Tryz.prog 24 #[.string s] W fun e w' => e = .returned (.tuple #[(srcY (sourceP s)).v, .int .i64 (srcN (sourceP s))]) ∧ Below W.heap.size W w' := fun W h => (source_is s (by omega) W h).mono fun e w' h => src_yn h
  have h25 : ∀ W : World, Calls Tryz.prog 25 #[.string s] W fun e w' => e = .returned (.tuple #[(srcY (sourceP s)).v, .int .i64 (srcN (sourceP s))]) ∧ Below W.heap.size W w' := fun W => (rsource_is s (by omega) W).mono fun e w' h => src_yn h
  generalize srcY (sourceP s) = y at *
  generalize srcN (sourceP s) = c at *
  have H24 := Lib.hid (show ∀ W : World, ML W → Calls Tryz.prog 24 #[.string s] W fun e w' => e = .returned (.tuple #[.agg #[.int .u8 y.kind, .string y.text, .string y.scheme, .bool y.wild, .int .i64 y.port, .bool y.hasPort, .bool y.anyPort, .string y.path], .int .i64 c]) ∧ Below W.heap.size W w' from h24)
  have H25 := Lib.hid (show ∀ W : World, Calls Tryz.prog 25 #[.string s] W fun e w' => e = .returned (.tuple #[.agg #[.int .u8 y.kind, .string y.text, .string y.scheme, .bool y.wild, .int .i64 y.port, .bool y.hasPort, .bool y.anyPort, .string y.path], .int .i64 c]) ∧ Below W.heap.size W w' from h25)
  have H27 := Lib.hid (fun (W : World) (h : ML W) (hv : Strs W (.slice lq ls.length lc) ls) => sources_is _ ls hls.1 hls.2 W h hv)
  have H28 := Lib.hid (fun (W : World) (hv : Strs W (.slice lq ls.length lc) ls) => rsources_is _ ls hls.1 hls.2 W hv)
  have hsl : (sourcesP ls).length ≤ 1048576 := Nat.le_trans (sources_len ls) hls.1
  have H26 := Lib.hid (fun (va vb : Value) (D E : Nat) (W : World) ha hb => sameSources_is va vb (sourcesP ls) D E hsl W ha hb)
  generalize sourcesP ls = r at *
  have HLV := Lib.hid hlv
  have HM := Lib.hid hM
  obtain ⟨n, hn⟩ : ∃ n, ls.length = n := ⟨_, rfl⟩
  rw [hn] at HLV H27 H28 ⊢
  clear h24 h25 hls hlv hM hn hsl
  go_enter Tryz.func4, Tryz.ntmps4
  go_wp2_with fail
  refine (H24.out _ HM.out).mono ?_
  rintro e w2 ⟨rfl, hb2⟩
  obtain ⟨X, hX⟩ : ∃ X, w2.alloc (.cells #[.int .u8 y.kind, .string y.text, .string y.scheme, .bool y.wild, .int .i64 y.port, .bool y.hasPort, .bool y.anyPort, .string y.path] 46) = X := ⟨_, rfl⟩
  have HA := Lib.hid (show Has X w2.heap.size (.cells y.cs 46) from hX ▸ Has.new w2 _)
  have HB := Lib.hid (show Below w.heap.size w X from hX ▸ hb2.alloc hb2.size _)
  have hsX : X.heap.size = w2.heap.size + 1 := by rw [← hX]; simp
  clear hb2 H24
  go_wp2_with fail
  refine (H25.out _).mono ?_
  rintro e w3 ⟨rfl, hb3⟩
  obtain ⟨Y, hY⟩ : ∃ Y, w3.alloc (.cells #[.int .u8 y.kind, .string y.text, .string y.scheme, .bool y.wild, .int .i64 y.port, .bool y.hasPort, .bool y.anyPort, .string y.path] 46) = Y := ⟨_, rfl⟩
  have HA2 := Lib.hid (show Has Y w2.heap.size (.cells y.cs 46) from hY ▸ (HA.out.to hb3).alloc _)
  have HC2 := Lib.hid (show Has Y w3.heap.size (.cells y.cs 46) from hY ▸ Has.new w3 _)
  have HB2 := Lib.hid (show Below w.heap.size w Y from hY ▸ (HB.out.trans (hb3.mono HB.out.size)).alloc (Nat.le_trans HB.out.size hb3.size) _)
  clear hb3 H25 HA HB hsX hX
  have HL := Lib.hid (lives_is Y (HM.out.to HB2.out))
  go_wp2_with (go_at_call 18; refine HL.out.mono ?_; rintro e w4 ⟨rfl, hb4⟩; have HA4 := Lib.hid (HA2.out.to hb4); have HC4 := Lib.hid (HC2.out.to hb4); have HB4 := Lib.hid (HB2.out.trans (hb4.mono HB2.out.size)); clear hb4; have z0 : w4.cell? ⟨w2.heap.size, 0, none⟩ = some (.int .u8 y.kind) := HA4.out.cell 0 rfl; have z1 : w4.cell? ⟨w2.heap.size, 1, none⟩ = some (.string y.text) := HA4.out.cell 1 rfl; have z2 : w4.cell? ⟨w2.heap.size, 2, none⟩ = some (.string y.scheme) := HA4.out.cell 2 rfl; have z3 : w4.cell? ⟨w2.heap.size, 3, none⟩ = some (.bool y.wild) := HA4.out.cell 3 rfl; have z4 : w4.cell? ⟨w2.heap.size, 4, none⟩ = some (.int .i64 y.port) := HA4.out.cell 4 rfl; have z5 : w4.cell? ⟨w2.heap.size, 5, none⟩ = some (.bool y.hasPort) := HA4.out.cell 5 rfl; have z6 : w4.cell? ⟨w2.heap.size, 6, none⟩ = some (.bool y.anyPort) := HA4.out.cell 6 rfl; have z7 : w4.cell? ⟨w2.heap.size, 7, none⟩ = some (.string y.path) := HA4.out.cell 7 rfl; have m0 : w4.cell? ⟨w3.heap.size, 0, none⟩ = some (.int .u8 y.kind) := HC4.out.cell 0 rfl; have m1 : w4.cell? ⟨w3.heap.size, 1, none⟩ = some (.string y.text) := HC4.out.cell 1 rfl; have m2 : w4.cell? ⟨w3.heap.size, 2, none⟩ = some (.string y.scheme) := HC4.out.cell 2 rfl; have m3 : w4.cell? ⟨w3.heap.size, 3, none⟩ = some (.bool y.wild) := HC4.out.cell 3 rfl; have m4 : w4.cell? ⟨w3.heap.size, 4, none⟩ = some (.int .i64 y.port) := HC4.out.cell 4 rfl; have m5 : w4.cell? ⟨w3.heap.size, 5, none⟩ = some (.bool y.hasPort) := HC4.out.cell 5 rfl; have m6 : w4.cell? ⟨w3.heap.size, 6, none⟩ = some (.bool y.anyPort) := HC4.out.cell 6 rfl; have m7 : w4.cell? ⟨w3.heap.size, 7, none⟩ = some (.string y.path) := HC4.out.cell 7 rfl)
  refine (H27.out _ (HM.out.to HB4.out) (HLV.out.to HB4.out)).mono ?_
  rintro e w5 ⟨⟨v5, rfl, ho5⟩, hb5⟩
  have HB5 := Lib.hid (HB4.out.trans (hb5.mono HB4.out.size))
  have HO5 := Lib.hid ho5
  clear ho5 hb5
  go_wp2_with (go_at_call 28; refine (H28.out _ (HLV.out.to HB5.out)).mono ?_; rintro e w6 ⟨⟨v6, rfl, ho6⟩, hb6⟩; have HB6 := Lib.hid (HB5.out.trans (hb6.mono HB5.out.size)); have HO6 := Lib.hid ho6; have HO56 := Lib.hid (show OwnSrc w6 w4.heap.size v5 r from own_to HO5.out hb6); clear ho6 hb6)
  refine (H26.out _ _ _ _ _ HO56.out HO6.out).mono ?_
  rintro e w7 ⟨rfl, hb7⟩
  have HB7 := Lib.hid (HB6.out.trans (hb7.mono HB6.out.size))
  clear hb7
  go_wp2_with fail
  go_ret
  exact ⟨rfl, HB7.out⟩
end Go.Proofs.YtempmmkdppelaaaGreatDoor
/-
  What lifts this seat's walks to tied cards of the second form.
-/
namespace Go.Proofs.YtempmmkdppelaaaGreatDoor
open Go.ChangeShapes Go.WideShapes Go.ChangeAt Go.RowKit Go.Deep
theorem own : ownKnob Tryz.prog.godebug = none := by kernel_rfl
theorem laidOut : laidOutB Tryz.prog = true := by kernel_rfl
abbrev theLaid : List (String × DataW Unit) := Rows.cspHeadersRow.laid
theorem ml_of {W : World} (hsh : W.ShapedOpen Tryz.prog) : ML W := Tryz.laysM145.s1_3 W hsh
theorem met_laid (os : Os) (args : Array Value) : laidMetH Tryz.prog theLaid ((World.laidAll Tryz.prog os theLaid).forCall (fun _ _ => 0) ⟨#[], args, []⟩).memory := by
  rw [MakeChecks.laidMetH_plain _ _ _ (by kernel_rfl)]
  exact laidMet_laidAll _ (by kernel_rfl) (by kernel_rfl)
theorem wrapUpto {H : Type} {enc : TypeId × Value → H} {a : Assume} {C : Checked} {os : Os} {f : FuncId} {fn : Func} {s : OpenSpec} {k : (H : Type) → List (DataW H) → Bool} (hk : s.cond = some k) {F : Stop.Interp} {conds : List PathCond} {laid : List (String × DataW Unit)} {apart fresh handsOn again : Bool}
    (own : ownKnob C.prog.godebug = none) (started : os.Started) (noInit : C.prog.inits.idxOf? f = none) (hfn : C.prog.funcs[f]? = some fn)
    (witness : ∃ (w : World) (tape : Tape) (i : Input), w.os = os ∧ (w.forCall tape i).Shaped C.prog ∧ i.vars = [] ∧ Input.okWide C.prog (w.forCall tape i) .any w.heap.size f i ∧
      s.preRow enc C.prog fn conds apart laid (w.forCall tape i).memory i.args ∧ a.holds C.prog (lone (Frame.enter C.prog f i.args .normal) [] (w.forCall tape i)))
    (contract : ∀ (W : World) (base : Nat) (args : Array Value) (ds gs : List (DataW H)) (before : List MemPlace),
      (∀ (j : Nat) t v, fn.params[j]? = some t → args[j]? = some v → Value.okWide C.prog W .any base t v) →
      DataW.Whole enc C.prog fn.params.toList s.vars apart W args.toList ds gs before → k H (ds ++ gs) = true →
      (DataW.weightsEach C.prog (fn.params.toList ++ s.bare.plain.varTypes C.prog) (ds ++ gs)).all (· ≤ reachBytes) = true → W.ShapedOpen C.prog → laidMetH C.prog laid W →
      Calls C.prog f args W fun e W' => ∃ v, e = .returned v ∧ (s.at F).post enc C.prog fn apart fresh handsOn again W args v W') :
    ReturnsInHanded a C os f .any (s.preRow enc C.prog fn conds apart laid) ((s.at F).post enc C.prog fn apart fresh handsOn again) := by
  refine returnsInHanded_of_calls own started noInit witness ?_
  intro w tape i _ hsh _ hok hpre _
  obtain ⟨_, _, _, fn', hfn', _, _, _, _, hval⟩ := hok
  have e : fn' = fn := Option.some.inj (hfn'.symm.trans hfn)
  subst e
  obtain ⟨⟨hp, hl⟩, hz⟩ := hpre
  obtain ⟨ds, gs, before, hw, _, hkk⟩ := (OpenSpec.pre_some hk conds apart _ _).1 hp
  have hw' := DataW.Whole.of_heap (w' := w.forCall tape i) (by rfl) hw
  refine (contract (w.forCall tape i) w.heap.size i.args ds gs before hval hw' hkk (hz.weights hw) hsh (hl.of_heap (by rfl))).mono fun e W' ⟨v, he, hp⟩ => ?_
  subst he
  exact ChangeSpec.post_blind hp
theorem witUpto {H : Type} {enc : TypeId × Value → H} {C : Checked} {os : Os} {f : FuncId} {fn : Func} {s : OpenSpec} {k : (H : Type) → List (DataW H) → Bool} (hk : s.cond = some k) {conds : List PathCond} {laid : List (String × DataW Unit)} {apart : Bool} (modest : Bool) (w0 : World) (args : Array Value) (fuel : Nat) (hos : w0.os = os)
    (hsh : (w0.forCall (fun _ _ => 0) ⟨#[], args, []⟩).Shaped C.prog)
    (hok : Input.okWideB C.prog (w0.forCall (fun _ _ => 0) ⟨#[], args, []⟩) f ⟨#[], args, []⟩ = true)
    {x : List (DataW H) × List (DataW H) × List MemPlace} (hx : DataW.whole enc C.prog (w0.forCall (fun _ _ => 0) ⟨#[], args, []⟩).memory fn.params.toList s.vars apart args.toList fuel = some x)
    (hconds : conds.all (PathCond.test C.prog ⟨fn.params.toList, x.1, s.bare.plain.varTypes C.prog, x.2.1⟩) = true) (hkk : k H (x.1 ++ x.2.1) = true)
    (hsz : s.bare.sizedB enc C.prog fn apart (w0.forCall (fun _ _ => 0) ⟨#[], args, []⟩).memory args fuel = true)
    (hl : laidMetH C.prog laid (w0.forCall (fun _ _ => 0) ⟨#[], args, []⟩).memory) :
    ∃ (w : World) (tape : Tape) (i : Input), w.os = os ∧ (w.forCall tape i).Shaped C.prog ∧ i.vars = [] ∧ Input.okWide C.prog (w.forCall tape i) .any w.heap.size f i ∧
      s.preRow enc C.prog fn conds apart laid (w.forCall tape i).memory i.args ∧ ({ modest := modest } : Assume).holds C.prog (lone (Frame.enter C.prog f i.args .normal) [] (w.forCall tape i)) :=
  ⟨w0, fun _ _ => 0, ⟨#[], args, []⟩, hos, hsh, (Input.okWide_of_okWideB (base := 0) hok).1, (Input.okWide_of_okWideB hok).2,
    OpenSpec.preRow_of_cond fuel hx hconds (fun k' h' => by rw [hk] at h'; cases h'; exact hkk) hsz hl, by
    simp only [Assume.holds]
    exact ⟨by simp, by simp, fun _ => Modest.zero, by simp, by simp⟩⟩
theorem bulk_mem {H : Type} : ∀ {ds : List (DataW H)} {d : DataW H}, d ∈ ds → Rows.uptoBulk d ≤ Rows.uptoBulkAll ds
  | d0 :: ds, d, hd => by
    rw [Rows.uptoBulkAll]
    rcases List.mem_cons.1 hd with rfl | hd
    · omega
    · have := bulk_mem hd; omega
theorem bulk_pos {H : Type} (d : DataW H) : 1 ≤ Rows.uptoBulk d := by
  cases d with
  | lit l => cases l <;> simp [Rows.uptoBulk]
  | _ => simp [Rows.uptoBulk]
theorem bulk_len {H : Type} : ∀ (ds : List (DataW H)), ds.length ≤ Rows.uptoBulkAll ds
  | [] => by simp
  | d :: ds => by rw [Rows.uptoBulkAll, List.length_cons]; have := bulk_len ds; have := bulk_pos d; omega
theorem open_bool {H : Type} {enc : TypeId × Value → H} {P : Program} {w : World} {base : Nat} {sp : Nat → Bool} {held : Bool} {r : Reach} {b0 : Nat} {t : TypeId} {v : Value} {d : DataW H} {ps : List MemPlace} (ht : P.underlying t = some .bool) (hval : Value.okWide P w r b0 t v) (hd : DataW.Trod enc P w base sp held t v d ps) :
    ∃ b : Bool, v = .bool b ∧ d = .lit (.bool b) ∧ ps = [] := by
  obtain ⟨b, rfl⟩ := okWide_bool ht hval
  obtain ⟨fuel, hf⟩ := hd
  obtain ⟨b', h, hx⟩ := DataW.trod_bool ht hf
  simp [Value.cells] at h
  subst h
  simp only [Prod.mk.injEq] at hx
  exact ⟨b, rfl, hx.1, hx.2⟩
end Go.Proofs.YtempmmkdppelaaaGreatDoor
