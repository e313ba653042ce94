import Derived.Test.YtempmmkdppelaaaGreatDoorTie
import Derived.Test.YtempmmkdppelaaaGreatDoorCards
import Derived.Test.YtempmmkdppelaaaGreatDoorU3M
import Derived.ProofKit
import Derived.OpenShut
import Derived.LaidMore
import Derived.Lay
import Derived.SevenTiedAt
import Derived.Stop.Joined
import Derived.HandedShaped
import Derived.ShutString
import Derived.SizedLaws
import Derived.ChangeOld
import Derived.ChangeSame
import Derived.Below
import Derived.Deep.Slices
import Derived.Deep.Fields
import Derived.JoinedCond
import Derived.Test.YtempmmkdppelaaaGreatDoorW7M
/-
  What lifts this seat's walks to tied cards of the second form.
-/
namespace Go.Proofs.YtempmmkdppelaaaGreatDoor
open Go.ChangeShapes Go.WideShapes Go.ChangeAt Go.RowKit Go.Deep
theorem own : ownKnob Tryz.prog.godebug = none := by kernel_rfl
theorem laidOut : laidOutB Tryz.prog = true := by kernel_rfl
abbrev theLaid : List (String × DataW Unit) := Rows.cspHeadersRow.laid
theorem ml_of {W : World} (hsh : W.ShapedOpen Tryz.prog) : ML W := Tryz.laysM145.s1_3 W hsh
theorem met_laid (os : Os) (args : Array Value) : laidMetH Tryz.prog theLaid ((World.laidAll Tryz.prog os theLaid).forCall (fun _ _ => 0) ⟨#[], args, []⟩).memory := by
  rw [MakeChecks.laidMetH_plain _ _ _ (by kernel_rfl)]
  exact laidMet_laidAll _ (by kernel_rfl) (by kernel_rfl)
theorem wrapUpto {H : Type} {enc : TypeId × Value → H} {a : Assume} {C : Checked} {os : Os} {f : FuncId} {fn : Func} {s : OpenSpec} {k : (H : Type) → List (DataW H) → Bool} (hk : s.cond = some k) {F : Stop.Interp} {conds : List PathCond} {laid : List (String × DataW Unit)} {apart fresh handsOn again : Bool}
    (own : ownKnob C.prog.godebug = none) (started : os.Started) (noInit : C.prog.inits.idxOf? f = none) (hfn : C.prog.funcs[f]? = some fn)
    (witness : ∃ (w : World) (tape : Tape) (i : Input), w.os = os ∧ (w.forCall tape i).Shaped C.prog ∧ i.vars = [] ∧ Input.okWide C.prog (w.forCall tape i) .any w.heap.size f i ∧
      s.preRow enc C.prog fn conds apart laid (w.forCall tape i).memory i.args ∧ a.holds C.prog (lone (Frame.enter C.prog f i.args .normal) [] (w.forCall tape i)))
    (contract : ∀ (W : World) (base : Nat) (args : Array Value) (ds gs : List (DataW H)) (before : List MemPlace),
      (∀ (j : Nat) t v, fn.params[j]? = some t → args[j]? = some v → Value.okWide C.prog W .any base t v) →
      DataW.Whole enc C.prog fn.params.toList s.vars apart W args.toList ds gs before → k H (ds ++ gs) = true →
      (DataW.weightsEach C.prog (fn.params.toList ++ s.bare.plain.varTypes C.prog) (ds ++ gs)).all (· ≤ reachBytes) = true → W.ShapedOpen C.prog → laidMetH C.prog laid W →
      Calls C.prog f args W fun e W' => ∃ v, e = .returned v ∧ (s.at F).post enc C.prog fn apart fresh handsOn again W args v W') :
    ReturnsInHanded a C os f .any (s.preRow enc C.prog fn conds apart laid) ((s.at F).post enc C.prog fn apart fresh handsOn again) := by
  refine returnsInHanded_of_calls own started noInit witness ?_
  intro w tape i _ hsh _ hok hpre _
  obtain ⟨_, _, _, fn', hfn', _, _, _, _, hval⟩ := hok
  have e : fn' = fn := Option.some.inj (hfn'.symm.trans hfn)
  subst e
  obtain ⟨⟨hp, hl⟩, hz⟩ := hpre
  obtain ⟨ds, gs, before, hw, _, hkk⟩ := (OpenSpec.pre_some hk conds apart _ _).1 hp
  have hw' := DataW.Whole.of_heap (w' := w.forCall tape i) (by rfl) hw
  refine (contract (w.forCall tape i) w.heap.size i.args ds gs before hval hw' hkk (hz.weights hw) hsh (hl.of_heap (by rfl))).mono fun e W' ⟨v, he, hp⟩ => ?_
  subst he
  exact ChangeSpec.post_blind hp
theorem witUpto {H : Type} {enc : TypeId × Value → H} {C : Checked} {os : Os} {f : FuncId} {fn : Func} {s : OpenSpec} {k : (H : Type) → List (DataW H) → Bool} (hk : s.cond = some k) {conds : List PathCond} {laid : List (String × DataW Unit)} {apart : Bool} (modest : Bool) (w0 : World) (args : Array Value) (fuel : Nat) (hos : w0.os = os)
    (hsh : (w0.forCall (fun _ _ => 0) ⟨#[], args, []⟩).Shaped C.prog)
    (hok : Input.okWideB C.prog (w0.forCall (fun _ _ => 0) ⟨#[], args, []⟩) f ⟨#[], args, []⟩ = true)
    {x : List (DataW H) × List (DataW H) × List MemPlace} (hx : DataW.whole enc C.prog (w0.forCall (fun _ _ => 0) ⟨#[], args, []⟩).memory fn.params.toList s.vars apart args.toList fuel = some x)
    (hconds : conds.all (PathCond.test C.prog ⟨fn.params.toList, x.1, s.bare.plain.varTypes C.prog, x.2.1⟩) = true) (hkk : k H (x.1 ++ x.2.1) = true)
    (hsz : s.bare.sizedB enc C.prog fn apart (w0.forCall (fun _ _ => 0) ⟨#[], args, []⟩).memory args fuel = true)
    (hl : laidMetH C.prog laid (w0.forCall (fun _ _ => 0) ⟨#[], args, []⟩).memory) :
    ∃ (w : World) (tape : Tape) (i : Input), w.os = os ∧ (w.forCall tape i).Shaped C.prog ∧ i.vars = [] ∧ Input.okWide C.prog (w.forCall tape i) .any w.heap.size f i ∧
      s.preRow enc C.prog fn conds apart laid (w.forCall tape i).memory i.args ∧ ({ modest := modest } : Assume).holds C.prog (lone (Frame.enter C.prog f i.args .normal) [] (w.forCall tape i)) :=
  ⟨w0, fun _ _ => 0, ⟨#[], args, []⟩, hos, hsh, (Input.okWide_of_okWideB (base := 0) hok).1, (Input.okWide_of_okWideB hok).2,
    OpenSpec.preRow_of_cond fuel hx hconds (fun k' h' => by rw [hk] at h'; cases h'; exact hkk) hsz hl, by
    simp only [Assume.holds]
    exact ⟨by simp, by simp, fun _ => Modest.zero, by simp, by simp⟩⟩
theorem bulk_mem {H : Type} : ∀ {ds : List (DataW H)} {d : DataW H}, d ∈ ds → Rows.uptoBulk d ≤ Rows.uptoBulkAll ds
  | d0 :: ds, d, hd => by
    rw [Rows.uptoBulkAll]
    rcases List.mem_cons.1 hd with rfl | hd
    · omega
    · have := bulk_mem hd; omega
theorem bulk_pos {H : Type} (d : DataW H) : 1 ≤ Rows.uptoBulk d := by
  cases d with
  | lit l => cases l <;> simp [Rows.uptoBulk]
  | _ => simp [Rows.uptoBulk]
theorem bulk_len {H : Type} : ∀ (ds : List (DataW H)), ds.length ≤ Rows.uptoBulkAll ds
  | [] => by simp
  | d :: ds => by rw [Rows.uptoBulkAll, List.length_cons]; have := bulk_len ds; have := bulk_pos d; omega
theorem open_bool {H : Type} {enc : TypeId × Value → H} {P : Program} {w : World} {base : Nat} {sp : Nat → Bool} {held : Bool} {r : Reach} {b0 : Nat} {t : TypeId} {v : Value} {d : DataW H} {ps : List MemPlace} (ht : P.underlying t = some .bool) (hval : Value.okWide P w r b0 t v) (hd : DataW.Trod enc P w base sp held t v d ps) :
    ∃ b : Bool, v = .bool b ∧ d = .lit (.bool b) ∧ ps = [] := by
  obtain ⟨b, rfl⟩ := okWide_bool ht hval
  obtain ⟨fuel, hf⟩ := hd
  obtain ⟨b', h, hx⟩ := DataW.trod_bool ht hf
  simp [Value.cells] at h
  subst h
  simp only [Prod.mk.injEq] at hx
  exact ⟨b, rfl, hx.1, hx.2⟩
end Go.Proofs.YtempmmkdppelaaaGreatDoor
/-
  A list of texts, a policy, that came in.
-/
namespace Go.Proofs.YtempmmkdppelaaaGreatDoor
open Go.ChangeShapes Go.WideShapes Go.ChangeAt Go.RowKit Go.Deep
section
variable {H : Type} {enc : TypeId × Value → H} {W : World}
abbrev TR (enc : TypeId × Value → H) (W : World) (fuel : Nat) (t : TypeId) (cs : List Value) (z : DataW H × List MemPlace) : Prop := DataW.trod enc Tryz.prog W 0 (fun _ => true) true fuel t cs = some z
theorem two_fields {t n : Nat} {f0 f1 : Field} {c0 c1 : Value} {z : DataW H × List MemPlace} (he : Tryz.prog.underlying t = some (.struct #[f0, f1])) (hone : oneCellFields Tryz.prog #[f0, f1] = true) (h : TR enc W n t [c0, c1] z) :
    ∃ n' y0 y1, TR enc W n' f0.type [c0] y0 ∧ TR enc W n' f1.type [c1] y1 ∧ z.1 = .agg [y0.1, y1.1] := by
  obtain ⟨xs, n', _, hxs, _, hlen, hg⟩ := DataW.trod_struct he h
  have g0 := hg 0 _ rfl
  have g1 := hg 1 _ rfl
  obtain ⟨o0, k0⟩ := hone_of hone 0 _ rfl
  obtain ⟨o1, k1⟩ := hone_of hone 1 _ rfl
  rw [o0, k0] at g0
  rw [o1, k1] at g1
  match xs, hlen with
  | [y0, y1], _ => exact ⟨n', y0, y1, g0, g1, by rw [hxs]; rfl⟩
theorem spot_none {b off : Nat} {spot : Option Nat} {v : Value} (h : W.cell? ⟨b, off, spot⟩ = some v) : spot = none := World.cell?_spot h
theorem strs_open {n : Nat} {c : Value} {z : DataW H × List MemPlace} (h : TR enc W n 22 [c] z) :
    ∃ (q : Option Addr) (l : List ByteArray) (cap : Nat), c = .slice q l.length cap ∧ Strs W (.slice q l.length cap) l ∧ (Rows.uptoBulk z.1 ≤ 1048576 → l.length ≤ 1048576 ∧ ∀ x ∈ l, x.size ≤ 1048576) := by
  rcases open_slice1 Tryz.underlying22 (by kernel_rfl) h with ⟨hcs, _⟩ | ⟨a, len, cap, m, n', V, D, Pl, hcs, _, hl, _, hm, hx, hi⟩
  · simp only [List.cons.injEq, and_true] at hcs
    exact ⟨none, [], 0, hcs, ⟨none, 0, rfl, fun i x hi => by simp at hi⟩, fun _ => ⟨by simp, by simp⟩⟩
  · simp only [List.cons.injEq, and_true] at hcs
    have hm' : m = cap := by simpa using hm
    have each : ∀ i, i < len → ∃ s : ByteArray, V i = .string s ∧ D i = .lit (.string s.data.toList) := fun i hil => by
      obtain ⟨_, ht⟩ := hi i (by omega)
      obtain ⟨s, h1, h2, _⟩ := DataW.trod_string Tryz.underlying9 ht
      simp only [List.cons.injEq, and_true] at h1
      simp only [Prod.mk.injEq] at h2
      exact ⟨s, h1, h2.1⟩
    obtain ⟨S, hS⟩ : ∃ S : Nat → ByteArray, ∀ i, i < len → V i = .string (S i) ∧ D i = .lit (.string (S i).data.toList) :=
      ⟨fun i => if hil : i < len then Classical.choose (each i hil) else ⟨#[]⟩, fun i hil => by simp only [dif_pos hil]; exact Classical.choose_spec (each i hil)⟩
    refine ⟨some a, (List.range len).map S, cap, by rw [hcs]; simp, ⟨some a, cap, rfl, fun i x hx' => ?_⟩, fun hb => ?_⟩
    · rw [List.getElem?_map] at hx'
      obtain ⟨j, hj, rfl⟩ := Option.map_eq_some_iff.1 hx'
      obtain ⟨hil, rfl⟩ := List.getElem?_eq_some_iff.1 hj
      rw [List.length_range] at hil
      rw [List.getElem_range]
      have hci := (hi i (by omega)).1
      have hc0 := (hi 0 (by omega)).1
      obtain ⟨b, off, spot⟩ := a
      have hsp : spot = none := by
        simp only [Addr.add] at hc0
        exact spot_none hc0
      subst hsp
      rw [(hS i hil).1, Addr.add_lit] at hci
      obtain ⟨o, ho, _⟩ := cells_of_cell hci
      exact ⟨b, off, rfl, (Array.getElem?_eq_some_iff.1 ho).1, hci⟩
    · simp only [hx] at hb
      rw [Rows.uptoBulk] at hb
      have h1 := bulk_len ((List.range len).map D)
      rw [List.length_map, List.length_range] at h1
      refine ⟨by rw [List.length_map, List.length_range]; omega, fun x hx' => ?_⟩
      obtain ⟨i, hir, rfl⟩ := List.mem_map.1 hx'
      have hil := List.mem_range.1 hir
      have h2 := bulk_mem (List.mem_map.2 ⟨i, hir, rfl⟩ : D i ∈ (List.range len).map D)
      rw [(hS i hil).2] at h2
      simp only [Rows.uptoBulk] at h2
      rw [Ks.len_list] at h2
      omega
theorem cells35 : Tryz.prog.cellsOf 35 = 2 := by kernel_rfl
theorem dirs_open {n : Nat} {c : Value} {z : DataW H × List MemPlace} (h : TR enc W n 23 [c] z) :
    ∃ (q : Option Addr) (l : List Dir) (cap : Nat), c = .slice q l.length cap ∧ Dirs W (.slice q l.length cap) l ∧ (Rows.uptoBulk z.1 ≤ 1048576 → Bk l) := by
  rcases open_slice Tryz.underlying23 h with ⟨hcs, _⟩ | ⟨a, len, cap, m, n', D, Pl, hcs, _, hl, _, hm, hx, hi⟩
  · simp only [List.cons.injEq, and_true] at hcs
    exact ⟨none, [], 0, hcs, ⟨none, 0, rfl, Nat.le_refl _, fun i x hi => by simp at hi⟩, fun _ => ⟨by simp, by simp⟩⟩
  · simp only [List.cons.injEq, and_true] at hcs
    have hm' : m = cap := by simpa using hm
    have each : ∀ i, i < len → ∃ d : Dir, ∃ vs, W.cell? (a.add (i * 2)) = some (.string d.1) ∧ W.cell? ((a.add (i * 2)).add 1) = some vs ∧ Strs W vs d.2 ∧ (Rows.uptoBulk (D i) ≤ 1048576 → d.1.size ≤ 1048576 ∧ d.2.length ≤ 1048576 ∧ ∀ v ∈ d.2, v.size ≤ 1048576) := fun i hil => by
      obtain ⟨cs', hc, ht⟩ := hi i (by omega)
      rw [cells35] at hc
      obtain ⟨_, hcl, hat⟩ := World.cells?_some hc
      match cs', hcl with
      | [c0, c1], _ =>
        obtain ⟨n2, y0, y1, g0, g1, hz⟩ := two_fields Tryz.underlying35 (by kernel_rfl) ht
        obtain ⟨s, h1, h2, _⟩ := DataW.trod_string Tryz.underlying9 g0
        simp only [List.cons.injEq, and_true] at h1
        obtain ⟨q, l, cap', e1, hst, hbk⟩ := strs_open g1
        subst h1
        subst e1
        have a0 := hat 0 (by omega)
        have a1 := hat 1 (by omega)
        refine ⟨(s, l), _, ?_, a1, hst, fun hb => ?_⟩
        · rw [show (a.add (i * 2)).add 0 = a.add (i * 2) from rfl] at a0; exact a0
        · have hz' : D i = .agg [y0.1, y1.1] := hz
          rw [hz', h2] at hb
          simp only [Rows.uptoBulk, Rows.uptoBulkAll] at hb
          rw [Ks.len_list] at hb
          obtain ⟨b1, b2⟩ := hbk (by omega)
          exact ⟨by simp only; omega, b1, b2⟩
    have each' : ∀ i, ∃ d : Dir, i < len → ∃ vs, W.cell? (a.add (i * 2)) = some (.string d.1) ∧ W.cell? ((a.add (i * 2)).add 1) = some vs ∧ Strs W vs d.2 ∧ (Rows.uptoBulk (D i) ≤ 1048576 → d.1.size ≤ 1048576 ∧ d.2.length ≤ 1048576 ∧ ∀ v ∈ d.2, v.size ≤ 1048576) := fun i => by
      by_cases hil : i < len
      · obtain ⟨d, hd⟩ := each i hil
        exact ⟨d, fun _ => hd⟩
      · exact ⟨(⟨#[]⟩, []), fun h => absurd h hil⟩
    obtain ⟨S, hS⟩ := Classical.skolem.1 each'
    refine ⟨some a, (List.range len).map S, cap, by rw [hcs]; simp, ⟨some a, cap, rfl, by simpa using hl, fun i x hx' => ?_⟩, fun hb => ?_⟩
    · rw [List.getElem?_map] at hx'
      obtain ⟨j, hj, rfl⟩ := Option.map_eq_some_iff.1 hx'
      obtain ⟨hil, rfl⟩ := List.getElem?_eq_some_iff.1 hj
      rw [List.length_range] at hil
      rw [List.getElem_range]
      obtain ⟨vs, h1, h2, h3, _⟩ := hS i hil
      obtain ⟨_, h0, _⟩ := hS 0 (by omega)
      obtain ⟨b, off, spot⟩ := a
      have hsp : spot = none := by
        simp only [Addr.add] at h0
        exact spot_none h0
      subst hsp
      rw [Addr.add_lit] at h1 h2
      rw [Addr.add_lit] at h2
      obtain ⟨o, ho, _⟩ := cells_of_cell h1
      exact ⟨b, off, vs, rfl, (Array.getElem?_eq_some_iff.1 ho).1, h1, h2, h3⟩
    · simp only [hx] at hb
      rw [Rows.uptoBulk] at hb
      have h1 := bulk_len ((List.range len).map D)
      rw [List.length_map, List.length_range] at h1
      refine ⟨by rw [List.length_map, List.length_range]; omega, fun x hx' => ?_⟩
      obtain ⟨i, hir, rfl⟩ := List.mem_map.1 hx'
      have hil := List.mem_range.1 hir
      have h2 := bulk_mem (List.mem_map.2 ⟨i, hir, rfl⟩ : D i ∈ (List.range len).map D)
      obtain ⟨_, _, _, _, hbk⟩ := hS i hil
      exact hbk (by omega)
set_option maxRecDepth 100000 in
theorem policy_open {r : Reach} {b0 : Nat} {v : Value} {d : DataW H} {p : List MemPlace} (hv : Value.okWide Tryz.prog W r b0 25 v) (h : DataW.Trod enc Tryz.prog W 0 (fun _ => true) true 25 v d p) :
    ∃ (q : Option Addr) (l : List Dir) (cap : Nat) (rep : Bool), v = .agg #[.slice q l.length cap, .bool rep] ∧ Dirs W (.slice q l.length cap) l ∧ (Rows.uptoBulk d ≤ 1048576 → Bk l) := by
  obtain ⟨cs, rfl, hsz⟩ := okWide_struct Tryz.underlying25 hv
  obtain ⟨l⟩ := cs
  match l, hsz.trans (show Tryz.prog.cellsOf 25 = 2 by kernel_rfl) with
  | [c0, c1], _ =>
    obtain ⟨fuel, hf⟩ := h
    obtain ⟨n2, y0, y1, g0, g1, hz⟩ := two_fields Tryz.underlying25 (by kernel_rfl) (z := (d, p)) hf
    obtain ⟨q, l, cap, e1, hd, hbk⟩ := dirs_open g0
    obtain ⟨b, e2, _⟩ := DataW.trod_bool Tryz.underlying4 g1
    simp only [List.cons.injEq, and_true] at e2
    subst e1; subst e2
    refine ⟨q, l, cap, b, rfl, hd, fun hb => hbk ?_⟩
    have hz' : d = .agg [y0.1, y1.1] := hz
    rw [hz'] at hb
    simp only [Rows.uptoBulk, Rows.uptoBulkAll] at hb
    omega
end
end Go.Proofs.YtempmmkdppelaaaGreatDoor
/-
  A list of texts as an argument.
-/
namespace Go.Proofs.YtempmmkdppelaaaGreatDoor
open Go.ChangeShapes Go.WideShapes Go.ChangeAt Go.RowKit Go.Deep
set_option maxRecDepth 100000 in
theorem strs_arg {H : Type} {enc : TypeId × Value → H} {W : World} {r : Reach} {b0 : Nat} {v : Value} {d : DataW H} {p : List MemPlace} (hv : Value.okWide Tryz.prog W r b0 22 v) (h : DataW.Trod enc Tryz.prog W 0 (fun _ => true) true 22 v d p) :
    ∃ (q : Option Addr) (l : List ByteArray) (cap : Nat), v = .slice q l.length cap ∧ Strs W (.slice q l.length cap) l ∧ (Rows.uptoBulk d ≤ 1048576 → l.length ≤ 1048576 ∧ ∀ x ∈ l, x.size ≤ 1048576) := by
  obtain ⟨x, y, c, rfl⟩ := okWide_slice Tryz.underlying22 hv
  obtain ⟨fuel, hf⟩ := h
  exact strs_open (z := (d, p)) hf
end Go.Proofs.YtempmmkdppelaaaGreatDoor
