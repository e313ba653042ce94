import Derived.Test.YtnjnhgeafbofkaaDoorHSdM
import Derived.Test.YtnjnhgeafbofkaaDoorTie
import Derived.Test.YtnjnhgeafbofkaaDoorCards
import Derived.Test.YtnjnhgeafbofkaaDoorF7M
import Derived.ProofKit
import Derived.OpenShut
import Derived.LaidMore
import Derived.Lay
import Derived.SevenTiedAt
import Derived.Stop.Joined
import Derived.HandedShaped
import Derived.ShutString
import Derived.SizedLaws
import Derived.ChangeOld
import Derived.ChangeSame
import Derived.Below
import Derived.Deep.Slices
import Derived.Deep.Fields
import Derived.Test.YtnjnhgeafbofkaaDoorG4M
/-
  The walk of QuerySorted as the lifting wants it.
-/
namespace Go.Proofs.YtnjnhgeafbofkaaDoor
open Go.RowKit
theorem QuerySorted_std (p : Option Addr) (l : List Fd) (cap : Nat) (hcap : l.length ≤ cap) (hl : l.length ≤ 1048576) (ht : ∀ x ∈ l, x.1.size ≤ 1048576 ∧ x.2.size ≤ 1048576) (_ : p = none → cap = 0) (nm : ByteArray) (_ : nm.size ≤ 1048576) (W : World) (hL : Lst W (.slice p l.length cap) l) (hM : ML W) :
    Calls Tryd.prog 7 #[.slice p l.length cap, .string nm] W fun e W' => e = .returned (.bool true) ∧ Below W.heap.size W W' :=
  QuerySorted_walk p l cap hcap hl ht nm W hL hM
end Go.Proofs.YtnjnhgeafbofkaaDoor
/-
  What lifts the walks of this seat: a list of pairs that came in, opened; MaxLen from the world's shape; the wrap that keeps both the shape and what is listed.
-/
namespace Go.Proofs.YtnjnhgeafbofkaaDoor
open Go.ChangeShapes Go.WideShapes Go.ChangeAt Go.RowKit Go.Deep
theorem own : ownKnob Tryd.prog.godebug = none := by kernel_rfl
theorem laidOut : laidOutB Tryd.prog = true := by kernel_rfl
abbrev theLaid : List (String × DataW Unit) := Rows.queryJoinsRow.laid
theorem ml_of {W : World} (hsh : W.ShapedOpen Tryd.prog) : ML W := Tryd.laysM143.s1_3 W hsh
/-- the wrap that keeps both the world's shape and what is listed -/
theorem wrapBoth {H : Type} {enc : TypeId × Value → H} {a : Assume} {C : Checked} {os : Os} {f : FuncId} {fn : Func} {s : ChangeSpec} {conds : List PathCond} {apart fresh handsOn again : Bool} {X : World → Array Value → Prop}
    (hX : ∀ (w w' : World) (args : Array Value), w.heap = w'.heap → X w args → X w' args)
    (own : ownKnob C.prog.godebug = none) (started : os.Started) (noInit : C.prog.inits.idxOf? f = none) (hfn : C.prog.funcs[f]? = some fn)
    (witness : ∃ (w : World) (tape : Tape) (i : Input), w.os = os ∧ (w.forCall tape i).Shaped C.prog ∧ i.vars = [] ∧ Input.okWide C.prog (w.forCall tape i) .any w.heap.size f i ∧
      ((s.pre enc C.prog fn conds apart (w.forCall tape i).memory i.args ∧ X (w.forCall tape i).memory i.args) ∧ sizedMet enc C.prog fn (OpenSpec.ofChange s) apart (w.forCall tape i).memory i.args) ∧ a.holds C.prog (lone (Frame.enter C.prog f i.args .normal) [] (w.forCall tape i)))
    (contract : ∀ (W : World) (base : Nat) (args : Array Value) (ds gs : List (DataW H)) (before : List MemPlace),
      (∀ (j : Nat) t v, fn.params[j]? = some t → args[j]? = some v → Value.okWide C.prog W .any base t v) →
      DataW.Whole enc C.prog fn.params.toList s.vars apart W args.toList ds gs before →
      (DataW.weightsEach C.prog (fn.params.toList ++ s.plain.varTypes C.prog) (ds ++ gs)).all (· ≤ reachBytes) = true → W.ShapedOpen C.prog → X W args →
      Calls C.prog f args W fun e W' => ∃ v, e = .returned v ∧ s.post enc C.prog fn apart fresh handsOn again W args v W') :
    ReturnsInHanded a C os f .any (fun w args => (s.pre enc C.prog fn conds apart w args ∧ X w args) ∧ sizedMet enc C.prog fn (OpenSpec.ofChange s) apart w args) (s.post enc C.prog fn apart fresh handsOn again) := by
  refine returnsInHanded_of_calls own started noInit witness ?_
  intro w tape i _ hsh _ hok hpre _
  obtain ⟨_, _, _, fn', hfn', _, _, _, _, hval⟩ := hok
  have e : fn' = fn := Option.some.inj (hfn'.symm.trans hfn)
  subst e
  obtain ⟨⟨⟨ds, gs, before, hw, _⟩, hx⟩, hz⟩ := hpre
  have hw' := DataW.Whole.of_heap (w' := w.forCall tape i) (by rfl) hw
  refine (contract (w.forCall tape i) w.heap.size i.args ds gs before hval hw' (hz.weights hw) hsh (hX _ _ _ (by rfl) hx)).mono fun e W' ⟨v, he, hp⟩ => ?_
  subst he
  exact ChangeSpec.post_blind hp
theorem met_laid (os : Os) (args : Array Value) : laidMetH Tryd.prog theLaid ((World.laidAll Tryd.prog os theLaid).forCall (fun _ _ => 0) ⟨#[], args, []⟩).memory := by
  rw [MakeChecks.laidMetH_plain _ _ _ (by kernel_rfl)]
  exact laidMet_laidAll _ (by kernel_rfl) (by kernel_rfl)
section
variable {H : Type} {enc : TypeId × Value → H} {W : World}
abbrev TR (enc : TypeId × Value → H) (W : World) (fuel : Nat) (t : TypeId) (cs : List Value) (z : DataW H × List MemPlace) : Prop := DataW.trod enc Tryd.prog W 0 (fun _ => true) true fuel t cs = some z
/-- a field's own reading -/
theorem at_field {t n : Nat} {fs : Array Field} {cs : List Value} {z : DataW H × List MemPlace} (he : Tryd.prog.underlying t = some (.struct fs)) (hone : oneCellFields Tryd.prog fs = true) (h : TR enc W n t cs z) :
    ∃ n', ∀ (i : Nat) (f : Field) (c : Value), fs[i]? = some f → cs[i]? = some c → ∃ y, TR enc W n' f.type [c] y := by
  obtain ⟨xs, n', _, _, _, hlen, hg⟩ := DataW.trod_struct he h
  refine ⟨n', fun i f c hf hc => ?_⟩
  obtain ⟨ho, hk⟩ := hone_of hone i f hf
  have h1 := hg i f hf
  rw [ho, hk] at h1
  have hil : i < cs.length := (List.getElem?_eq_some_iff.1 hc).1
  have hd : (cs.drop i).take 1 = [c] := by
    rw [List.drop_eq_getElem_cons hil]
    have : cs[i] = c := by rw [List.getElem?_eq_getElem hil] at hc; exact Option.some.inj hc
    rw [this]; rfl
  rw [hd] at h1
  have hix : i < xs.length := by rw [hlen]; exact (Array.getElem?_eq_some_iff.1 hf).1
  exact ⟨xs[i], h1.trans (List.getElem?_eq_getElem hix)⟩
theorem is_str {n : Nat} {c : Value} {y : DataW H × List MemPlace} (h : TR enc W n 9 [c] y) : ∃ a, c = .string a := by
  obtain ⟨a, hc, _, hw⟩ := DataW.trod_string Tryd.underlying9 h
  simp only [List.cons.injEq, and_true] at hc
  exact ⟨a, hc⟩
theorem el_field : ∀ n cs (z : DataW H × List MemPlace), cs.length = 2 → TR enc W n 38 cs z → ∃ x : Fd, encF x = cs := by
  intro n cs z hl h
  obtain ⟨n', hf⟩ := at_field Tryd.underlying38 (by kernel_rfl) h
  match cs, hl with
  | [c0, c1], _ =>
    obtain ⟨_, h0⟩ := hf 0 _ c0 rfl rfl
    obtain ⟨_, h1⟩ := hf 1 _ c1 rfl rfl
    obtain ⟨a, rfl⟩ := is_str h0
    obtain ⟨b, rfl⟩ := is_str h1
    exact ⟨(a, b), rfl⟩
theorem cells38 : Tryd.prog.cellsOf 38 = 2 := by kernel_rfl
/-- a list of pairs that came in -/
theorem open_fields {v : Value} {d : DataW H} {p : List MemPlace} {q : Option Addr} {len cap0 : Nat} (hv : v = .slice q len cap0) (h : DataW.Trod enc Tryd.prog W 0 (fun _ => true) true 22 v d p) (hw : (DataW.weights Tryd.prog 22 d).all (· ≤ reachBytes) = true) :
    ∃ (q : Option Addr) (l : List Fd) (cap : Nat), v = .slice q l.length cap ∧ Lst W (.slice q l.length cap) l ∧ l.length ≤ cap ∧ cap * 32 ≤ 140737488351232 ∧ (q = none → cap = 0) := by
  subst hv
  obtain ⟨fuel, hf⟩ := h
  rcases open_slice Tryd.underlying22 hf with ⟨hcs, hx⟩ | ⟨a, len, cap, m, n, D, Pl, hcs, _, hl, _, hm, hx, hi⟩
  · simp [Value.cells] at hcs
    obtain ⟨rfl, rfl, rfl⟩ := hcs
    exact ⟨none, [], 0, rfl, ⟨none, 0, rfl, fun i x hi => by simp at hi⟩, Nat.le_refl _, by omega, fun _ => rfl⟩
  · simp [Value.cells] at hcs
    obtain ⟨rfl, rfl, rfl⟩ := hcs
    have hm' : m = cap0 := by simpa using hm
    simp only [Prod.mk.injEq] at hx
    have each : ∀ i, i < len → ∃ x : Fd, ∀ j u, (encF x)[j]? = some u → W.cell? ((a.add (i * 2)).add j) = some u := fun i hil => by
      obtain ⟨cs', hc, ht'⟩ := hi i (by omega)
      rw [cells38] at hc
      obtain ⟨_, hcl, hat⟩ := World.cells?_some hc
      obtain ⟨x, hx⟩ := el_field n cs' _ hcl ht'
      refine ⟨x, fun j u hj => ?_⟩
      rw [hx] at hj
      have hjl : j < 2 := by rw [← hcl]; exact (List.getElem?_eq_some_iff.1 hj).1
      rw [hat j hjl]; exact hj
    have hcap : cap0 * 32 ≤ 140737488351232 := by
      have hb : Tryd.prog.bytesOf 38 = 32 := by kernel_rfl
      have hmem := List.all_eq_true.1 hw ((len + (cap0 - len)) * 32) (by
        rw [hx.1]
        simp [DataW.weights, Tryd.underlying22, hb, hm'])
      have := of_decide_eq_true hmem
      simp only [reachBytes] at this
      rw [show len + (cap0 - len) = cap0 by omega] at this
      exact this
    refine ⟨some a, List.ofFn (fun i : Fin len => Classical.choose (each i.1 i.2)), cap0, by rw [List.length_ofFn], ?_, by rw [List.length_ofFn]; exact hl, hcap, (fun h => by cases h)⟩
    refine ⟨some a, cap0, rfl, fun i x hx => ?_⟩
    have hil : i < len := by
      have := (List.getElem?_eq_some_iff.1 hx).1
      rwa [List.length_ofFn] at this
    rw [List.getElem?_ofFn, dif_pos hil] at hx
    simp only [Option.some.injEq] at hx
    have hcell := Classical.choose_spec (each i hil)
    rw [hx] at hcell
    obtain ⟨x0, hc0⟩ := each 0 (by omega)
    obtain ⟨b, off, spot⟩ := a
    have hspot : spot = none := by simpa [Addr.add] using World.cell?_spot (hc0 0 _ rfl)
    subst hspot
    have c0 := hcell 0 _ rfl
    have c1 := hcell 1 _ rfl
    rw [Addr.add_lit, Addr.add_lit] at c0 c1
    obtain ⟨o, ho, _⟩ := cells_of_cell c0
    exact ⟨b, off, rfl, (Array.getElem?_eq_some_iff.1 ho).1, c0, c1⟩
end
end Go.Proofs.YtnjnhgeafbofkaaDoor
/-
  The texts of a list of pairs that came in are within the form's reach.
-/
namespace Go.Proofs.YtnjnhgeafbofkaaDoor
open Go.ChangeShapes Go.WideShapes Go.ChangeAt Go.RowKit Go.Deep
theorem mem_all {H : Type} {P : Program} {e : TypeId} : ∀ {ds : List (DataW H)} {d : DataW H}, d ∈ ds → ∀ n ∈ d.weights P e, n ∈ DataW.weightsAll P e ds
  | d0 :: ds, d, hd, n, hn => by
    rw [DataW.weightsAll, List.mem_append]
    rcases List.mem_cons.1 hd with rfl | hd
    · exact .inl hn
    · exact .inr (mem_all hd n hn)
section
variable {H : Type} {enc : TypeId × Value → H} {W : World}
theorem two_fields {t n : Nat} {f0 f1 : Field} {c0 c1 : Value} {z : DataW H × List MemPlace} (he : Tryd.prog.underlying t = some (.struct #[f0, f1])) (hone : oneCellFields Tryd.prog #[f0, f1] = true) (h : TR enc W n t [c0, c1] z) :
    ∃ n' y0 y1, TR enc W n' f0.type [c0] y0 ∧ TR enc W n' f1.type [c1] y1 ∧ z.1 = .agg [y0.1, y1.1] := by
  obtain ⟨xs, n', _, hxs, _, hlen, hg⟩ := DataW.trod_struct he h
  have g0 := hg 0 _ rfl
  have g1 := hg 1 _ rfl
  obtain ⟨o0, k0⟩ := hone_of hone 0 _ rfl
  obtain ⟨o1, k1⟩ := hone_of hone 1 _ rfl
  rw [o0, k0] at g0
  rw [o1, k1] at g1
  match xs, hlen with
  | [y0, y1], _ => exact ⟨n', y0, y1, g0, g1, by rw [hxs]; rfl⟩
theorem fields_fit {v : Value} {d : DataW H} {p : List MemPlace} {q : Option Addr} {l : List Fd} {cap : Nat} (hv : v = .slice q l.length cap) (hL : Lst W (.slice q l.length cap) l) (h : DataW.Trod enc Tryd.prog W 0 (fun _ => true) true 22 v d p) (hw : (DataW.weights Tryd.prog 22 d).all (· ≤ reachBytes) = true) : Fit l := by
  subst hv
  obtain ⟨fuel, hf⟩ := h
  intro x hx
  obtain ⟨i, hil, rfl⟩ := List.getElem_of_mem hx
  rcases open_slice Tryd.underlying22 hf with ⟨hcs, _⟩ | ⟨a, len, cap', m, n, D, Pl, hcs, _, hl, _, hm, hx, hi⟩
  · simp [Value.cells] at hcs
    have := hcs.2.1
    subst this
    simp at hil
  · simp [Value.cells] at hcs
    obtain ⟨rfl, rfl, rfl⟩ := hcs
    have hm' : m = cap := by simpa using hm
    simp only [Prod.mk.injEq] at hx
    obtain ⟨cs', hc, ht'⟩ := hi i (by omega)
    rw [cells38] at hc
    obtain ⟨_, hcl, hat⟩ := World.cells?_some hc
    obtain ⟨p', c', e, hcc⟩ := hL
    simp only [Value.slice.injEq] at e
    obtain ⟨rfl, -, rfl⟩ := e
    obtain ⟨g, o, hp, _, h0, h1⟩ := hcc i _ (getF hil)
    simp only [Option.some.injEq] at hp
    subst hp
    have a0 := hat 0 (by omega)
    have a1 := hat 1 (by omega)
    rw [Addr.add_lit, Addr.add_lit] at a0 a1
    have b0 := a0.symm.trans h0
    have b1 := a1.symm.trans h1
    match cs', hcl with
    | [c0, c1], _ =>
      simp at b0 b1
      subst b0; subst b1
      obtain ⟨n', y0, y1, g0, g1, hxs⟩ := two_fields Tryd.underlying38 (by kernel_rfl) ht'
      obtain ⟨s0, e0, f0, _⟩ := DataW.trod_string Tryd.underlying9 g0
      obtain ⟨s1, e1, f1, _⟩ := DataW.trod_string Tryd.underlying9 g1
      simp at e0 e1
      subst e0; subst e1; subst f0; subst f1
      have hxs : D i = _ := hxs
      have hD : D i ∈ (List.range l.length).map D := List.mem_map.2 ⟨i, List.mem_range.2 hil, rfl⟩
      have hall : ∀ k ∈ DataW.weights Tryd.prog 38 (D i), k ≤ reachBytes := fun k hk => of_decide_eq_true (List.all_eq_true.1 hw k (by
        rw [hx.1]
        simp only [DataW.weights, Tryd.underlying22, List.mem_cons, List.mem_append]
        exact .inr (.inl (mem_all hD k hk))))
      rw [hxs] at hall
      simp only [DataW.weights, Tryd.underlying38, List.map_cons, List.map_nil, DataW.weightsEach, List.append_nil, List.mem_append, List.mem_singleton, List.cons_append, List.nil_append, List.mem_cons, List.mem_nil_iff, or_false] at hall
      have r0 := hall _ (.inl rfl)
      have r1 := hall _ (.inr rfl)
      rw [len_list] at r0 r1
      simp only [reachBytes] at r0 r1
      exact ⟨by omega, by omega⟩
end
end Go.Proofs.YtnjnhgeafbofkaaDoor
