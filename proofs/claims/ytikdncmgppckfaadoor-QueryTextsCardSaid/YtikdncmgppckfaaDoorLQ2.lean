import Derived.Test.YtikdncmgppckfaaDoorLQ
import Derived.Test.YtikdncmgppckfaaDoorG5
/-
  The texts of a list of pairs that came in are within the form's reach.
-/
namespace Go.Proofs.YtikdncmgppckfaaDoor
open Go.ChangeShapes Go.WideShapes Go.ChangeAt Go.RowKit Go.Deep
theorem mem_all {H : Type} {P : Program} {e : TypeId} : ∀ {ds : List (DataW H)} {d : DataW H}, d ∈ ds → ∀ n ∈ d.weights P e, n ∈ DataW.weightsAll P e ds
  | d0 :: ds, d, hd, n, hn => by
    rw [DataW.weightsAll, List.mem_append]
    rcases List.mem_cons.1 hd with rfl | hd
    · exact .inl hn
    · exact .inr (mem_all hd n hn)
section
variable {H : Type} {enc : TypeId × Value → H} {W : World}
theorem two_fields {t n : Nat} {f0 f1 : Field} {c0 c1 : Value} {z : DataW H × List MemPlace} (he : Tryd.prog.underlying t = some (.struct #[f0, f1])) (hone : oneCellFields Tryd.prog #[f0, f1] = true) (h : TR enc W n t [c0, c1] z) :
    ∃ n' y0 y1, TR enc W n' f0.type [c0] y0 ∧ TR enc W n' f1.type [c1] y1 ∧ z.1 = .agg [y0.1, y1.1] := by
  obtain ⟨xs, n', _, hxs, _, hlen, hg⟩ := DataW.trod_struct he h
  have g0 := hg 0 _ rfl
  have g1 := hg 1 _ rfl
  obtain ⟨o0, k0⟩ := hone_of hone 0 _ rfl
  obtain ⟨o1, k1⟩ := hone_of hone 1 _ rfl
  rw [o0, k0] at g0
  rw [o1, k1] at g1
  match xs, hlen with
  | [y0, y1], _ => exact ⟨n', y0, y1, g0, g1, by rw [hxs]; rfl⟩
theorem fields_fit {v : Value} {d : DataW H} {p : List MemPlace} {q : Option Addr} {l : List Fd} {cap : Nat} (hv : v = .slice q l.length cap) (hL : Lst W (.slice q l.length cap) l) (h : DataW.Trod enc Tryd.prog W 0 (fun _ => true) true 22 v d p) (hw : (DataW.weights Tryd.prog 22 d).all (· ≤ reachBytes) = true) : Fit l := by
  subst hv
  obtain ⟨fuel, hf⟩ := h
  intro x hx
  obtain ⟨i, hil, rfl⟩ := List.getElem_of_mem hx
  rcases open_slice Tryd.underlying22 hf with ⟨hcs, _⟩ | ⟨a, len, cap', m, n, D, Pl, hcs, _, hl, _, hm, hx, hi⟩
  · simp [Value.cells] at hcs
    have := hcs.2.1
    subst this
    simp at hil
  · simp [Value.cells] at hcs
    obtain ⟨rfl, rfl, rfl⟩ := hcs
    have hm' : m = cap := by simpa using hm
    simp only [Prod.mk.injEq] at hx
    obtain ⟨cs', hc, ht'⟩ := hi i (by omega)
    rw [cells38] at hc
    obtain ⟨_, hcl, hat⟩ := World.cells?_some hc
    obtain ⟨p', c', e, hcc⟩ := hL
    simp only [Value.slice.injEq] at e
    obtain ⟨rfl, -, rfl⟩ := e
    obtain ⟨g, o, hp, _, h0, h1⟩ := hcc i _ (getF hil)
    simp only [Option.some.injEq] at hp
    subst hp
    have a0 := hat 0 (by omega)
    have a1 := hat 1 (by omega)
    rw [Addr.add_lit, Addr.add_lit] at a0 a1
    have b0 := a0.symm.trans h0
    have b1 := a1.symm.trans h1
    match cs', hcl with
    | [c0, c1], _ =>
      simp at b0 b1
      subst b0; subst b1
      obtain ⟨n', y0, y1, g0, g1, hxs⟩ := two_fields Tryd.underlying38 (by kernel_rfl) ht'
      obtain ⟨s0, e0, f0, _⟩ := DataW.trod_string Tryd.underlying9 g0
      obtain ⟨s1, e1, f1, _⟩ := DataW.trod_string Tryd.underlying9 g1
      simp at e0 e1
      subst e0; subst e1; subst f0; subst f1
      have hxs : D i = _ := hxs
      have hD : D i ∈ (List.range l.length).map D := List.mem_map.2 ⟨i, List.mem_range.2 hil, rfl⟩
      have hall : ∀ k ∈ DataW.weights Tryd.prog 38 (D i), k ≤ reachBytes := fun k hk => of_decide_eq_true (List.all_eq_true.1 hw k (by
        rw [hx.1]
        simp only [DataW.weights, Tryd.underlying22, List.mem_cons, List.mem_append]
        exact .inr (.inl (mem_all hD k hk))))
      rw [hxs] at hall
      simp only [DataW.weights, Tryd.underlying38, List.map_cons, List.map_nil, DataW.weightsEach, List.append_nil, List.mem_append, List.mem_singleton, List.cons_append, List.nil_append, List.mem_cons, List.mem_nil_iff, or_false] at hall
      have r0 := hall _ (.inl rfl)
      have r1 := hall _ (.inr rfl)
      rw [len_list] at r0 r1
      simp only [reachBytes] at r0 r1
      exact ⟨by omega, by omega⟩
end
end Go.Proofs.YtikdncmgppckfaaDoor
