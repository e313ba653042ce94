import Derived.Test.YtnjnhgeafbofkaaDoorWCM
import Derived.Test.YtnjnhgeafbofkaaDoorG4M
import Derived.JoinedCond
/-
  The texts of a list of pairs that came in are within the form's reach.
-/
namespace Go.Proofs.YtnjnhgeafbofkaaDoor
open Go.ChangeShapes Go.WideShapes Go.ChangeAt Go.RowKit Go.Deep
theorem mem_all {H : Type} {P : Program} {e : TypeId} : ∀ {ds : List (DataW H)} {d : DataW H}, d ∈ ds → ∀ n ∈ d.weights P e, n ∈ DataW.weightsAll P e ds
  | d0 :: ds, d, hd, n, hn => by
    rw [DataW.weightsAll, List.mem_append]
    rcases List.mem_cons.1 hd with rfl | hd
    · exact .inl hn
    · exact .inr (mem_all hd n hn)
section
variable {H : Type} {enc : TypeId × Value → H} {W : World}
theorem two_fields {t n : Nat} {f0 f1 : Field} {c0 c1 : Value} {z : DataW H × List MemPlace} (he : Tryd.prog.underlying t = some (.struct #[f0, f1])) (hone : oneCellFields Tryd.prog #[f0, f1] = true) (h : TR enc W n t [c0, c1] z) :
    ∃ n' y0 y1, TR enc W n' f0.type [c0] y0 ∧ TR enc W n' f1.type [c1] y1 ∧ z.1 = .agg [y0.1, y1.1] := by
  obtain ⟨xs, n', _, hxs, _, hlen, hg⟩ := DataW.trod_struct he h
  have g0 := hg 0 _ rfl
  have g1 := hg 1 _ rfl
  obtain ⟨o0, k0⟩ := hone_of hone 0 _ rfl
  obtain ⟨o1, k1⟩ := hone_of hone 1 _ rfl
  rw [o0, k0] at g0
  rw [o1, k1] at g1
  match xs, hlen with
  | [y0, y1], _ => exact ⟨n', y0, y1, g0, g1, by rw [hxs]; rfl⟩
theorem fields_fit {v : Value} {d : DataW H} {p : List MemPlace} {q : Option Addr} {l : List Fd} {cap : Nat} (hv : v = .slice q l.length cap) (hL : Lst W (.slice q l.length cap) l) (h : DataW.Trod enc Tryd.prog W 0 (fun _ => true) true 22 v d p) (hw : (DataW.weights Tryd.prog 22 d).all (· ≤ reachBytes) = true) : Fit l := by
  subst hv
  obtain ⟨fuel, hf⟩ := h
  intro x hx
  obtain ⟨i, hil, rfl⟩ := List.getElem_of_mem hx
  rcases open_slice Tryd.underlying22 hf with ⟨hcs, _⟩ | ⟨a, len, cap', m, n, D, Pl, hcs, _, hl, _, hm, hx, hi⟩
  · simp [Value.cells] at hcs
    have := hcs.2.1
    subst this
    simp at hil
  · simp [Value.cells] at hcs
    obtain ⟨rfl, rfl, rfl⟩ := hcs
    have hm' : m = cap := by simpa using hm
    simp only [Prod.mk.injEq] at hx
    obtain ⟨cs', hc, ht'⟩ := hi i (by omega)
    rw [cells38] at hc
    obtain ⟨_, hcl, hat⟩ := World.cells?_some hc
    obtain ⟨p', c', e, hcc⟩ := hL
    simp only [Value.slice.injEq] at e
    obtain ⟨rfl, -, rfl⟩ := e
    obtain ⟨g, o, hp, _, h0, h1⟩ := hcc i _ (getF hil)
    simp only [Option.some.injEq] at hp
    subst hp
    have a0 := hat 0 (by omega)
    have a1 := hat 1 (by omega)
    rw [Addr.add_lit, Addr.add_lit] at a0 a1
    have b0 := a0.symm.trans h0
    have b1 := a1.symm.trans h1
    match cs', hcl with
    | [c0, c1], _ =>
      simp at b0 b1
      subst b0; subst b1
      obtain ⟨n', y0, y1, g0, g1, hxs⟩ := two_fields Tryd.underlying38 (by kernel_rfl) ht'
      obtain ⟨s0, e0, f0, _⟩ := DataW.trod_string Tryd.underlying9 g0
      obtain ⟨s1, e1, f1, _⟩ := DataW.trod_string Tryd.underlying9 g1
      simp at e0 e1
      subst e0; subst e1; subst f0; subst f1
      have hxs : D i = _ := hxs
      have hD : D i ∈ (List.range l.length).map D := List.mem_map.2 ⟨i, List.mem_range.2 hil, rfl⟩
      have hall : ∀ k ∈ DataW.weights Tryd.prog 38 (D i), k ≤ reachBytes := fun k hk => of_decide_eq_true (List.all_eq_true.1 hw k (by
        rw [hx.1]
        simp only [DataW.weights, Tryd.underlying22, List.mem_cons, List.mem_append]
        exact .inr (.inl (mem_all hD k hk))))
      rw [hxs] at hall
      simp only [DataW.weights, Tryd.underlying38, List.map_cons, List.map_nil, DataW.weightsEach, List.append_nil, List.mem_append, List.mem_singleton, List.cons_append, List.nil_append, List.mem_cons, List.mem_nil_iff, or_false] at hall
      have r0 := hall _ (.inl rfl)
      have r1 := hall _ (.inr rfl)
      rw [len_list] at r0 r1
      simp only [reachBytes] at r0 r1
      exact ⟨by omega, by omega⟩
end
end Go.Proofs.YtnjnhgeafbofkaaDoor
/-
  What lifts a walk to a tied card of the second form: the wrap that keeps the world's shape, what is listed, and the specification's own condition; what the bulk says of a list of pairs.
-/
namespace Go.Proofs.YtnjnhgeafbofkaaDoor
open Go.ChangeShapes Go.WideShapes Go.ChangeAt Go.RowKit Go.Deep
theorem wrapUpto {H : Type} {enc : TypeId × Value → H} {a : Assume} {C : Checked} {os : Os} {f : FuncId} {fn : Func} {s : OpenSpec} {k : (H : Type) → List (DataW H) → Bool} (hk : s.cond = some k) {F : Stop.Interp} {conds : List PathCond} {laid : List (String × DataW Unit)} {apart fresh handsOn again : Bool}
    (own : ownKnob C.prog.godebug = none) (started : os.Started) (noInit : C.prog.inits.idxOf? f = none) (hfn : C.prog.funcs[f]? = some fn)
    (witness : ∃ (w : World) (tape : Tape) (i : Input), w.os = os ∧ (w.forCall tape i).Shaped C.prog ∧ i.vars = [] ∧ Input.okWide C.prog (w.forCall tape i) .any w.heap.size f i ∧
      s.preRow enc C.prog fn conds apart laid (w.forCall tape i).memory i.args ∧ a.holds C.prog (lone (Frame.enter C.prog f i.args .normal) [] (w.forCall tape i)))
    (contract : ∀ (W : World) (base : Nat) (args : Array Value) (ds gs : List (DataW H)) (before : List MemPlace),
      (∀ (j : Nat) t v, fn.params[j]? = some t → args[j]? = some v → Value.okWide C.prog W .any base t v) →
      DataW.Whole enc C.prog fn.params.toList s.vars apart W args.toList ds gs before → k H (ds ++ gs) = true →
      (DataW.weightsEach C.prog (fn.params.toList ++ s.bare.plain.varTypes C.prog) (ds ++ gs)).all (· ≤ reachBytes) = true → W.ShapedOpen C.prog → laidMetH C.prog laid W →
      Calls C.prog f args W fun e W' => ∃ v, e = .returned v ∧ (s.at F).post enc C.prog fn apart fresh handsOn again W args v W') :
    ReturnsInHanded a C os f .any (s.preRow enc C.prog fn conds apart laid) ((s.at F).post enc C.prog fn apart fresh handsOn again) := by
  refine returnsInHanded_of_calls own started noInit witness ?_
  intro w tape i _ hsh _ hok hpre _
  obtain ⟨_, _, _, fn', hfn', _, _, _, _, hval⟩ := hok
  have e : fn' = fn := Option.some.inj (hfn'.symm.trans hfn)
  subst e
  obtain ⟨⟨hp, hl⟩, hz⟩ := hpre
  obtain ⟨ds, gs, before, hw, _, hkk⟩ := (OpenSpec.pre_some hk conds apart _ _).1 hp
  have hw' := DataW.Whole.of_heap (w' := w.forCall tape i) (by rfl) hw
  refine (contract (w.forCall tape i) w.heap.size i.args ds gs before hval hw' hkk (hz.weights hw) hsh (hl.of_heap (by rfl))).mono fun e W' ⟨v, he, hp⟩ => ?_
  subst he
  exact ChangeSpec.post_blind hp
theorem witUpto {H : Type} {enc : TypeId × Value → H} {C : Checked} {os : Os} {f : FuncId} {fn : Func} {s : OpenSpec} {k : (H : Type) → List (DataW H) → Bool} (hk : s.cond = some k) {conds : List PathCond} {laid : List (String × DataW Unit)} {apart : Bool} (modest : Bool) (w0 : World) (args : Array Value) (fuel : Nat) (hos : w0.os = os)
    (hsh : (w0.forCall (fun _ _ => 0) ⟨#[], args, []⟩).Shaped C.prog)
    (hok : Input.okWideB C.prog (w0.forCall (fun _ _ => 0) ⟨#[], args, []⟩) f ⟨#[], args, []⟩ = true)
    {x : List (DataW H) × List (DataW H) × List MemPlace} (hx : DataW.whole enc C.prog (w0.forCall (fun _ _ => 0) ⟨#[], args, []⟩).memory fn.params.toList s.vars apart args.toList fuel = some x)
    (hconds : conds.all (PathCond.test C.prog ⟨fn.params.toList, x.1, s.bare.plain.varTypes C.prog, x.2.1⟩) = true) (hkk : k H (x.1 ++ x.2.1) = true)
    (hsz : s.bare.sizedB enc C.prog fn apart (w0.forCall (fun _ _ => 0) ⟨#[], args, []⟩).memory args fuel = true)
    (hl : laidMetH C.prog laid (w0.forCall (fun _ _ => 0) ⟨#[], args, []⟩).memory) :
    ∃ (w : World) (tape : Tape) (i : Input), w.os = os ∧ (w.forCall tape i).Shaped C.prog ∧ i.vars = [] ∧ Input.okWide C.prog (w.forCall tape i) .any w.heap.size f i ∧
      s.preRow enc C.prog fn conds apart laid (w.forCall tape i).memory i.args ∧ ({ modest := modest } : Assume).holds C.prog (lone (Frame.enter C.prog f i.args .normal) [] (w.forCall tape i)) :=
  ⟨w0, fun _ _ => 0, ⟨#[], args, []⟩, hos, hsh, (Input.okWide_of_okWideB (base := 0) hok).1, (Input.okWide_of_okWideB hok).2,
    OpenSpec.preRow_of_cond fuel hx hconds (fun k' h' => by rw [hk] at h'; cases h'; exact hkk) hsz hl, by
    simp only [Assume.holds]
    exact ⟨by simp, by simp, fun _ => Modest.zero, by simp, by simp⟩⟩
theorem bulk_mem {H : Type} : ∀ {ds : List (DataW H)} {d : DataW H}, d ∈ ds → Rows.uptoBulk d ≤ Rows.uptoBulkAll ds
  | d0 :: ds, d, hd => by
    rw [Rows.uptoBulkAll]
    rcases List.mem_cons.1 hd with rfl | hd
    · omega
    · have := bulk_mem hd; omega
theorem bulk_pos {H : Type} (d : DataW H) : 1 ≤ Rows.uptoBulk d := by
  cases d with
  | lit l => cases l <;> simp [Rows.uptoBulk]
  | _ => simp [Rows.uptoBulk]
theorem bulk_len {H : Type} : ∀ (ds : List (DataW H)), ds.length ≤ Rows.uptoBulkAll ds
  | [] => by simp
  | d :: ds => by rw [Rows.uptoBulkAll, List.length_cons]; have := bulk_len ds; have := bulk_pos d; omega
section
variable {H : Type} {enc : TypeId × Value → H} {W : World}
/-- within the bulk a list of pairs is short, and so are its texts -/
theorem fields_small {v : Value} {d : DataW H} {p : List MemPlace} {q : Option Addr} {l : List Fd} {cap : Nat} (hv : v = .slice q l.length cap) (hL : Lst W (.slice q l.length cap) l) (h : DataW.Trod enc Tryd.prog W 0 (fun _ => true) true 22 v d p) (hb : Rows.uptoBulk d ≤ 1048576) : l.length ≤ 1048576 ∧ ∀ x ∈ l, x.1.size ≤ 1048576 ∧ x.2.size ≤ 1048576 := by
  subst hv
  obtain ⟨fuel, hf⟩ := h
  rcases open_slice Tryd.underlying22 hf with ⟨hcs, _⟩ | ⟨a, len, cap', m, n, D, Pl, hcs, _, hl, _, hm, hx, hi⟩
  · simp [Value.cells] at hcs
    have h0 := hcs.2.1
    subst h0
    exact ⟨by simp, fun x hx => by simp at hx⟩
  · simp [Value.cells] at hcs
    obtain ⟨rfl, rfl, rfl⟩ := hcs
    simp only [Prod.mk.injEq] at hx
    have hel : ∀ i, i < l.length → Rows.uptoBulk (D i) ≤ 1048576 := fun i hil => by
      have hD : D i ∈ (List.range l.length).map D := List.mem_map.2 ⟨i, List.mem_range.2 hil, rfl⟩
      have h1 := bulk_mem hD
      rw [hx.1, Rows.uptoBulk] at hb
      omega
    refine ⟨?_, fun x hxm => ?_⟩
    · rw [hx.1, Rows.uptoBulk] at hb
      have := bulk_len ((List.range l.length).map D)
      rw [List.length_map, List.length_range] at this
      omega
    · obtain ⟨i, hil, rfl⟩ := List.getElem_of_mem hxm
      obtain ⟨cs', hc, ht'⟩ := hi i (by have : m = cap := by simpa using hm
                                        omega)
      rw [cells38] at hc
      obtain ⟨_, hcl, hat⟩ := World.cells?_some hc
      obtain ⟨p', c', e, hcc⟩ := hL
      simp only [Value.slice.injEq] at e
      obtain ⟨rfl, -, rfl⟩ := e
      obtain ⟨g, o, hp, _, h0, h1⟩ := hcc i _ (getF hil)
      simp only [Option.some.injEq] at hp
      subst hp
      have a0 := hat 0 (by omega)
      have a1 := hat 1 (by omega)
      rw [Addr.add_lit, Addr.add_lit] at a0 a1
      have b0 := a0.symm.trans h0
      have b1 := a1.symm.trans h1
      match cs', hcl with
      | [c0, c1], _ =>
        simp at b0 b1
        subst b0; subst b1
        obtain ⟨n', y0, y1, g0, g1, hxs⟩ := two_fields Tryd.underlying38 (by kernel_rfl) ht'
        obtain ⟨s0, e0, f0, _⟩ := DataW.trod_string Tryd.underlying9 g0
        obtain ⟨s1, e1, f1, _⟩ := DataW.trod_string Tryd.underlying9 g1
        simp at e0 e1
        subst e0; subst e1; subst f0; subst f1
        have hxs : D i = _ := hxs
        have := hel i hil
        rw [hxs] at this
        simp only [Rows.uptoBulk, Rows.uptoBulkAll] at this
        rw [len_list, len_list] at this
        exact ⟨by omega, by omega⟩
end
end Go.Proofs.YtnjnhgeafbofkaaDoor
