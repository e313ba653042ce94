/-
  A list of texts, a policy, that came in.
-/
import Derived.Test.YtempmmkdppelaaaGreatDoorW7M
namespace Go.Proofs.YtempmmkdppelaaaGreatDoor
open Go.ChangeShapes Go.WideShapes Go.ChangeAt Go.RowKit Go.Deep
section
variable {H : Type} {enc : TypeId × Value → H} {W : World}
abbrev TR (enc : TypeId × Value → H) (W : World) (fuel : Nat) (t : TypeId) (cs : List Value) (z : DataW H × List MemPlace) : Prop := DataW.trod enc Tryz.prog W 0 (fun _ => true) true fuel t cs = some z
theorem two_fields {t n : Nat} {f0 f1 : Field} {c0 c1 : Value} {z : DataW H × List MemPlace} (he : Tryz.prog.underlying t = some (.struct #[f0, f1])) (hone : oneCellFields Tryz.prog #[f0, f1] = true) (h : TR enc W n t [c0, c1] z) :
    ∃ n' y0 y1, TR enc W n' f0.type [c0] y0 ∧ TR enc W n' f1.type [c1] y1 ∧ z.1 = .agg [y0.1, y1.1] := by
  obtain ⟨xs, n', _, hxs, _, hlen, hg⟩ := DataW.trod_struct he h
  have g0 := hg 0 _ rfl
  have g1 := hg 1 _ rfl
  obtain ⟨o0, k0⟩ := hone_of hone 0 _ rfl
  obtain ⟨o1, k1⟩ := hone_of hone 1 _ rfl
  rw [o0, k0] at g0
  rw [o1, k1] at g1
  match xs, hlen with
  | [y0, y1], _ => exact ⟨n', y0, y1, g0, g1, by rw [hxs]; rfl⟩
theorem spot_none {b off : Nat} {spot : Option Nat} {v : Value} (h : W.cell? ⟨b, off, spot⟩ = some v) : spot = none := World.cell?_spot h
theorem strs_open {n : Nat} {c : Value} {z : DataW H × List MemPlace} (h : TR enc W n 22 [c] z) :
    ∃ (q : Option Addr) (l : List ByteArray) (cap : Nat), c = .slice q l.length cap ∧ Strs W (.slice q l.length cap) l ∧ (Rows.uptoBulk z.1 ≤ 1048576 → l.length ≤ 1048576 ∧ ∀ x ∈ l, x.size ≤ 1048576) := by
  rcases open_slice1 Tryz.underlying22 (by kernel_rfl) h with ⟨hcs, _⟩ | ⟨a, len, cap, m, n', V, D, Pl, hcs, _, hl, _, hm, hx, hi⟩
  · simp only [List.cons.injEq, and_true] at hcs
    exact ⟨none, [], 0, hcs, ⟨none, 0, rfl, fun i x hi => by simp at hi⟩, fun _ => ⟨by simp, by simp⟩⟩
  · simp only [List.cons.injEq, and_true] at hcs
    have hm' : m = cap := by simpa using hm
    have each : ∀ i, i < len → ∃ s : ByteArray, V i = .string s ∧ D i = .lit (.string s.data.toList) := fun i hil => by
      obtain ⟨_, ht⟩ := hi i (by omega)
      obtain ⟨s, h1, h2, _⟩ := DataW.trod_string Tryz.underlying9 ht
      simp only [List.cons.injEq, and_true] at h1
      simp only [Prod.mk.injEq] at h2
      exact ⟨s, h1, h2.1⟩
    obtain ⟨S, hS⟩ : ∃ S : Nat → ByteArray, ∀ i, i < len → V i = .string (S i) ∧ D i = .lit (.string (S i).data.toList) :=
      ⟨fun i => if hil : i < len then Classical.choose (each i hil) else ⟨#[]⟩, fun i hil => by simp only [dif_pos hil]; exact Classical.choose_spec (each i hil)⟩
    refine ⟨some a, (List.range len).map S, cap, by rw [hcs]; simp, ⟨some a, cap, rfl, fun i x hx' => ?_⟩, fun hb => ?_⟩
    · rw [List.getElem?_map] at hx'
      obtain ⟨j, hj, rfl⟩ := Option.map_eq_some_iff.1 hx'
      obtain ⟨hil, rfl⟩ := List.getElem?_eq_some_iff.1 hj
      rw [List.length_range] at hil
      rw [List.getElem_range]
      have hci := (hi i (by omega)).1
      have hc0 := (hi 0 (by omega)).1
      obtain ⟨b, off, spot⟩ := a
      have hsp : spot = none := by
        simp only [Addr.add] at hc0
        exact spot_none hc0
      subst hsp
      rw [(hS i hil).1, Addr.add_lit] at hci
      obtain ⟨o, ho, _⟩ := cells_of_cell hci
      exact ⟨b, off, rfl, (Array.getElem?_eq_some_iff.1 ho).1, hci⟩
    · simp only [hx] at hb
      rw [Rows.uptoBulk] at hb
      have h1 := bulk_len ((List.range len).map D)
      rw [List.length_map, List.length_range] at h1
      refine ⟨by rw [List.length_map, List.length_range]; omega, fun x hx' => ?_⟩
      obtain ⟨i, hir, rfl⟩ := List.mem_map.1 hx'
      have hil := List.mem_range.1 hir
      have h2 := bulk_mem (List.mem_map.2 ⟨i, hir, rfl⟩ : D i ∈ (List.range len).map D)
      rw [(hS i hil).2] at h2
      simp only [Rows.uptoBulk] at h2
      rw [Ks.len_list] at h2
      omega
theorem cells35 : Tryz.prog.cellsOf 35 = 2 := by kernel_rfl
theorem dirs_open {n : Nat} {c : Value} {z : DataW H × List MemPlace} (h : TR enc W n 23 [c] z) :
    ∃ (q : Option Addr) (l : List Dir) (cap : Nat), c = .slice q l.length cap ∧ Dirs W (.slice q l.length cap) l ∧ (Rows.uptoBulk z.1 ≤ 1048576 → Bk l) := by
  rcases open_slice Tryz.underlying23 h with ⟨hcs, _⟩ | ⟨a, len, cap, m, n', D, Pl, hcs, _, hl, _, hm, hx, hi⟩
  · simp only [List.cons.injEq, and_true] at hcs
    exact ⟨none, [], 0, hcs, ⟨none, 0, rfl, Nat.le_refl _, fun i x hi => by simp at hi⟩, fun _ => ⟨by simp, by simp⟩⟩
  · simp only [List.cons.injEq, and_true] at hcs
    have hm' : m = cap := by simpa using hm
    have each : ∀ i, i < len → ∃ d : Dir, ∃ vs, W.cell? (a.add (i * 2)) = some (.string d.1) ∧ W.cell? ((a.add (i * 2)).add 1) = some vs ∧ Strs W vs d.2 ∧ (Rows.uptoBulk (D i) ≤ 1048576 → d.1.size ≤ 1048576 ∧ d.2.length ≤ 1048576 ∧ ∀ v ∈ d.2, v.size ≤ 1048576) := fun i hil => by
      obtain ⟨cs', hc, ht⟩ := hi i (by omega)
      rw [cells35] at hc
      obtain ⟨_, hcl, hat⟩ := World.cells?_some hc
      match cs', hcl with
      | [c0, c1], _ =>
        obtain ⟨n2, y0, y1, g0, g1, hz⟩ := two_fields Tryz.underlying35 (by kernel_rfl) ht
        obtain ⟨s, h1, h2, _⟩ := DataW.trod_string Tryz.underlying9 g0
        simp only [List.cons.injEq, and_true] at h1
        obtain ⟨q, l, cap', e1, hst, hbk⟩ := strs_open g1
        subst h1
        subst e1
        have a0 := hat 0 (by omega)
        have a1 := hat 1 (by omega)
        refine ⟨(s, l), _, ?_, a1, hst, fun hb => ?_⟩
        · rw [show (a.add (i * 2)).add 0 = a.add (i * 2) from rfl] at a0; exact a0
        · have hz' : D i = .agg [y0.1, y1.1] := hz
          rw [hz', h2] at hb
          simp only [Rows.uptoBulk, Rows.uptoBulkAll] at hb
          rw [Ks.len_list] at hb
          obtain ⟨b1, b2⟩ := hbk (by omega)
          exact ⟨by simp only; omega, b1, b2⟩
    have each' : ∀ i, ∃ d : Dir, i < len → ∃ vs, W.cell? (a.add (i * 2)) = some (.string d.1) ∧ W.cell? ((a.add (i * 2)).add 1) = some vs ∧ Strs W vs d.2 ∧ (Rows.uptoBulk (D i) ≤ 1048576 → d.1.size ≤ 1048576 ∧ d.2.length ≤ 1048576 ∧ ∀ v ∈ d.2, v.size ≤ 1048576) := fun i => by
      by_cases hil : i < len
      · obtain ⟨d, hd⟩ := each i hil
        exact ⟨d, fun _ => hd⟩
      · exact ⟨(⟨#[]⟩, []), fun h => absurd h hil⟩
    obtain ⟨S, hS⟩ := Classical.skolem.1 each'
    refine ⟨some a, (List.range len).map S, cap, by rw [hcs]; simp, ⟨some a, cap, rfl, by simpa using hl, fun i x hx' => ?_⟩, fun hb => ?_⟩
    · rw [List.getElem?_map] at hx'
      obtain ⟨j, hj, rfl⟩ := Option.map_eq_some_iff.1 hx'
      obtain ⟨hil, rfl⟩ := List.getElem?_eq_some_iff.1 hj
      rw [List.length_range] at hil
      rw [List.getElem_range]
      obtain ⟨vs, h1, h2, h3, _⟩ := hS i hil
      obtain ⟨_, h0, _⟩ := hS 0 (by omega)
      obtain ⟨b, off, spot⟩ := a
      have hsp : spot = none := by
        simp only [Addr.add] at h0
        exact spot_none h0
      subst hsp
      rw [Addr.add_lit] at h1 h2
      rw [Addr.add_lit] at h2
      obtain ⟨o, ho, _⟩ := cells_of_cell h1
      exact ⟨b, off, vs, rfl, (Array.getElem?_eq_some_iff.1 ho).1, h1, h2, h3⟩
    · simp only [hx] at hb
      rw [Rows.uptoBulk] at hb
      have h1 := bulk_len ((List.range len).map D)
      rw [List.length_map, List.length_range] at h1
      refine ⟨by rw [List.length_map, List.length_range]; omega, fun x hx' => ?_⟩
      obtain ⟨i, hir, rfl⟩ := List.mem_map.1 hx'
      have hil := List.mem_range.1 hir
      have h2 := bulk_mem (List.mem_map.2 ⟨i, hir, rfl⟩ : D i ∈ (List.range len).map D)
      obtain ⟨_, _, _, _, hbk⟩ := hS i hil
      exact hbk (by omega)
set_option maxRecDepth 100000 in
theorem policy_open {r : Reach} {b0 : Nat} {v : Value} {d : DataW H} {p : List MemPlace} (hv : Value.okWide Tryz.prog W r b0 25 v) (h : DataW.Trod enc Tryz.prog W 0 (fun _ => true) true 25 v d p) :
    ∃ (q : Option Addr) (l : List Dir) (cap : Nat) (rep : Bool), v = .agg #[.slice q l.length cap, .bool rep] ∧ Dirs W (.slice q l.length cap) l ∧ (Rows.uptoBulk d ≤ 1048576 → Bk l) := by
  obtain ⟨cs, rfl, hsz⟩ := okWide_struct Tryz.underlying25 hv
  obtain ⟨l⟩ := cs
  match l, hsz.trans (show Tryz.prog.cellsOf 25 = 2 by kernel_rfl) with
  | [c0, c1], _ =>
    obtain ⟨fuel, hf⟩ := h
    obtain ⟨n2, y0, y1, g0, g1, hz⟩ := two_fields Tryz.underlying25 (by kernel_rfl) (z := (d, p)) hf
    obtain ⟨q, l, cap, e1, hd, hbk⟩ := dirs_open g0
    obtain ⟨b, e2, _⟩ := DataW.trod_bool Tryz.underlying4 g1
    simp only [List.cons.injEq, and_true] at e2
    subst e1; subst e2
    refine ⟨q, l, cap, b, rfl, hd, fun hb => hbk ?_⟩
    have hz' : d = .agg [y0.1, y1.1] := hz
    rw [hz'] at hb
    simp only [Rows.uptoBulk, Rows.uptoBulkAll] at hb
    omega
end
end Go.Proofs.YtempmmkdppelaaaGreatDoor
