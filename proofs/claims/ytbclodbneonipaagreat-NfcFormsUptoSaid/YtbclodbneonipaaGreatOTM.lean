import Derived.Test.YtbclodbneonipaaGreatFOM
import Derived.Deep.Slices
import Derived.Deep.Fields
import Derived.ChangeSame
import Derived.OpenShut
import Derived.SizedLaws
import Derived.Test.YtbclodbneonipaaGreatRows
namespace Go.Proofs.YtbclodbneonipaaGreat
open Go.RowKit N
open Go.ChangeShapes Go.WideShapes Go.Deep
section
variable {H : Type} {enc : TypeId × Value → H} {W : World}
abbrev TR (enc : TypeId × Value → H) (W : World) (fuel : Nat) (t : TypeId) (cs : List Value) (z : DataW H × List MemPlace) : Prop := DataW.trod enc Tryz.prog W 0 (fun _ => true) true fuel t cs = some z
theorem open_list {α : Type} {t e k fuel : Nat} {y : DataW H × List MemPlace} {v : Value} (enc2 : α → List Value) (Ok : α → Prop) (ht : Tryz.prog.underlying t = some (.slice e)) (hk : Tryz.prog.cellsOf e = k) (hk0 : 0 < k)
    (hel : ∀ n cs z, cs.length = k → TR enc W n e cs z → ∃ x : α, enc2 x = cs ∧ Ok x) (h : TR enc W fuel t [v] y) :
    ∃ l : List α, Lst W k enc2 v l ∧ (∀ x ∈ l, Ok x) ∧ ((y.1 = .nil ∧ l = []) ∨ ∃ es sp, y.1 = .slice es sp ∧ es.length = l.length) := by
  rcases open_slice ht h with ⟨hcs, hx⟩ | ⟨a, len, cap, m, n, D, Pl, hcs, _, hl, _, hm, hx, hi⟩
  · simp only [List.cons.injEq, and_true] at hcs
    subst hcs hx
    exact ⟨[], lst_nil _ _ _, fun x hx => (by cases hx), .inl ⟨rfl, rfl⟩⟩
  · simp only [List.cons.injEq, and_true] at hcs
    subst hcs hx
    have hm' : m = cap := by simpa using hm
    have each : ∀ i, i < len → ∃ x : α, Ok x ∧ (enc2 x).length = k ∧ ∀ j u, (enc2 x)[j]? = some u → W.cell? ((a.add (i * k)).add j) = some u := fun i hil => by
      obtain ⟨cs', hc, ht'⟩ := hi i (by omega)
      rw [hk] at hc
      obtain ⟨_, hcl, hat⟩ := World.cells?_some hc
      obtain ⟨x, hx, hok⟩ := hel n cs' _ hcl ht'
      refine ⟨x, hok, by rw [hx]; exact hcl, fun j u hj => ?_⟩
      rw [hx] at hj
      have hjl : j < k := by rw [← hcl]; exact (List.getElem?_eq_some_iff.1 hj).1
      rw [hat j hjl]; exact hj
    refine ⟨List.ofFn (fun i : Fin len => Classical.choose (each i.1 i.2)), ⟨some a, cap, by rw [List.length_ofFn], (fun h => by cases h), fun i x hx => ?_⟩, fun x hx => ?_, .inr ⟨_, _, rfl, by simp⟩⟩
    · have hil : i < len := by
        have := (List.getElem?_eq_some_iff.1 hx).1
        rwa [List.length_ofFn] at this
      rw [List.getElem?_ofFn, dif_pos hil] at hx
      simp only [Option.some.injEq] at hx
      obtain ⟨_, hxl, hcell⟩ := Classical.choose_spec (each i hil)
      rw [hx] at hcell hxl
      have h0 := each 0 (by omega)
      obtain ⟨x0, _, hx0l, hc0⟩ := h0
      obtain ⟨b, off, spot⟩ := a
      have hu0 : (enc2 x0)[0]? = some ((enc2 x0)[0]'(by omega)) := List.getElem?_eq_getElem (by omega)
      have hspot : spot = none := by simpa [Addr.add] using World.cell?_spot (hc0 0 _ hu0)
      subst hspot
      have huu : (enc2 x)[0]? = some ((enc2 x)[0]'(by omega)) := List.getElem?_eq_getElem (by omega)
      have hcc := hcell 0 _ huu
      rw [Addr.add_lit, Addr.add_lit] at hcc
      obtain ⟨o, ho, _⟩ := cells_of_cell hcc
      refine ⟨b, off, rfl, (Array.getElem?_eq_some_iff.1 ho).1, fun j u hj => ?_⟩
      have := hcell j u hj
      rw [Addr.add_lit, Addr.add_lit] at this
      exact this
    · obtain ⟨i, hil, rfl⟩ := List.getElem_of_mem hx
      rw [List.length_ofFn] at hil
      rw [List.getElem_ofFn]
      exact (Classical.choose_spec (each i hil)).1
/-- a field's own reading -/
theorem at_field {t n : Nat} {fs : Array Field} {cs : List Value} {z : DataW H × List MemPlace} (he : Tryz.prog.underlying t = some (.struct fs)) (hone : oneCellFields Tryz.prog fs = true) (h : TR enc W n t cs z) :
    ∃ n', ∀ (i : Nat) (f : Field) (c : Value), fs[i]? = some f → cs[i]? = some c → ∃ y, TR enc W n' f.type [c] y := by
  obtain ⟨xs, n', _, _, _, hlen, hg⟩ := DataW.trod_struct he h
  refine ⟨n', fun i f c hf hc => ?_⟩
  obtain ⟨ho, hk⟩ := hone_of hone i f hf
  have h1 := hg i f hf
  rw [ho, hk] at h1
  have hil : i < cs.length := (List.getElem?_eq_some_iff.1 hc).1
  have hd : (cs.drop i).take 1 = [c] := by
    rw [List.drop_eq_getElem_cons hil]
    have : cs[i] = c := by rw [List.getElem?_eq_getElem hil] at hc; exact Option.some.inj hc
    rw [this]; rfl
  rw [hd] at h1
  have hix : i < xs.length := by rw [hlen]; exact (Array.getElem?_eq_some_iff.1 hf).1
  exact ⟨xs[i], h1.trans (List.getElem?_eq_getElem hix)⟩
theorem is_int {t n : Nat} {q : IntKind} {c : Value} {y : DataW H × List MemPlace} (ht : Tryz.prog.underlying t = some (.int q)) (h : TR enc W n t [c] y) : ∃ a, c = .int q a ∧ (Lit.int q a).wf = true := by
  obtain ⟨a, hc, _, hw⟩ := DataW.trod_int ht h
  simp only [List.cons.injEq, and_true] at hc
  exact ⟨a, hc, hw⟩
theorem u8_bd {z : Int} (h : (Lit.int .u8 z).wf = true) : 0 ≤ z ∧ z ≤ 255 := by simpa [Lit.wf, IntKind.min, IntKind.max, IntKind.signed, IntKind.bits] using h
theorem el_class : ∀ n cs (z : DataW H × List MemPlace), cs.length = 2 → TR enc W n 50 cs z → ∃ x : Cl, encCl x = cs ∧ (0 ≤ x.c ∧ x.c ≤ 255) := by
  intro n cs z hl h
  obtain ⟨n', hf⟩ := at_field Tryz.underlying50 (by kernel_rfl) h
  match cs, hl with
  | [c0, c1], _ =>
    obtain ⟨_, h0⟩ := hf 0 _ c0 rfl rfl
    obtain ⟨_, h1⟩ := hf 1 _ c1 rfl rfl
    obtain ⟨a, rfl, _⟩ := is_int Tryz.underlying21 h0
    obtain ⟨b, rfl, hb⟩ := is_int Tryz.underlying5 h1
    exact ⟨⟨a, b⟩, rfl, u8_bd hb⟩
theorem el_way : ∀ n cs (z : DataW H × List MemPlace), cs.length = 3 → TR enc W n 105 cs z → ∃ x : Sg, encSg x = cs ∧ (0 ≤ x.k ∧ x.k ≤ 255) := by
  intro n cs z hl h
  obtain ⟨n', hf⟩ := at_field Tryz.underlying105 (by kernel_rfl) h
  match cs, hl with
  | [c0, c1, c2], _ =>
    obtain ⟨_, h0⟩ := hf 0 _ c0 rfl rfl
    obtain ⟨_, h1⟩ := hf 1 _ c1 rfl rfl
    obtain ⟨_, h2⟩ := hf 2 _ c2 rfl rfl
    obtain ⟨a, rfl, _⟩ := is_int Tryz.underlying21 h0
    obtain ⟨b, rfl, _⟩ := is_int Tryz.underlying21 h1
    obtain ⟨c, rfl, hc⟩ := is_int Tryz.underlying103 h2
    exact ⟨⟨a, b, c⟩, rfl, u8_bd hc⟩
theorem el_join : ∀ n cs (z : DataW H × List MemPlace), cs.length = 3 → TR enc W n 110 cs z → ∃ x : Sg, encSg x = cs ∧ (0 ≤ x.k ∧ x.k ≤ 255) := by
  intro n cs z hl h
  obtain ⟨n', hf⟩ := at_field Tryz.underlying110 (by kernel_rfl) h
  match cs, hl with
  | [c0, c1, c2], _ =>
    obtain ⟨_, h0⟩ := hf 0 _ c0 rfl rfl
    obtain ⟨_, h1⟩ := hf 1 _ c1 rfl rfl
    obtain ⟨_, h2⟩ := hf 2 _ c2 rfl rfl
    obtain ⟨a, rfl, _⟩ := is_int Tryz.underlying21 h0
    obtain ⟨b, rfl, _⟩ := is_int Tryz.underlying21 h1
    obtain ⟨c, rfl, hc⟩ := is_int Tryz.underlying108 h2
    exact ⟨⟨a, b, c⟩, rfl, u8_bd hc⟩
theorem el_pair : ∀ n cs (z : DataW H × List MemPlace), cs.length = 4 → TR enc W n 52 cs z → ∃ x : Pa, encPa x = cs ∧ ((Lit.int .i32 x.r).wf = true ∧ (Lit.int .i32 x.a).wf = true ∧ (Lit.int .i32 x.b).wf = true) := by
  intro n cs z hl h
  obtain ⟨n', hf⟩ := at_field Tryz.underlying52 (by kernel_rfl) h
  match cs, hl with
  | [c0, c1, c2, c3], _ =>
    obtain ⟨_, h0⟩ := hf 0 _ c0 rfl rfl
    obtain ⟨_, h1⟩ := hf 1 _ c1 rfl rfl
    obtain ⟨_, h2⟩ := hf 2 _ c2 rfl rfl
    obtain ⟨_, h3⟩ := hf 3 _ c3 rfl rfl
    obtain ⟨a, rfl, ha⟩ := is_int Tryz.underlying21 h0
    obtain ⟨b, rfl, hb⟩ := is_int Tryz.underlying21 h1
    obtain ⟨c, rfl, hc⟩ := is_int Tryz.underlying21 h2
    obtain ⟨d, hd, _⟩ := DataW.trod_bool Tryz.underlying4 h3
    simp only [List.cons.injEq, and_true] at hd
    subst hd
    exact ⟨⟨a, b, c, d⟩, rfl, ha, hb, hc⟩
theorem open_runes {n : Nat} {c : Value} {y : DataW H × List MemPlace} (h : TR enc W n 29 [c] y) : ∃ l, RunesAt W c l ∧ (∀ m c', c = .slice none m c' → m = 0 ∧ c' = 0) ∧ Wf32 l ∧ ((y.1 = .nil ∧ l = []) ∨ ∃ es sp, y.1 = .slice es sp ∧ es.length = l.length) := by
  rcases open_ints Tryz.underlying29 Tryz.underlying21 (by kernel_rfl) h with ⟨hcs, hx⟩ | ⟨a, len, cap, zs, hcs, _, hl, _, hz, hx, hcell, hwz⟩
  · simp only [List.cons.injEq, and_true] at hcs
    subst hcs hx
    exact ⟨[], ⟨none, 0, rfl, fun k x hk => by simp at hk⟩, (fun m c' e => by cases e; exact ⟨rfl, rfl⟩), (fun x hx => by cases hx), .inl ⟨rfl, rfl⟩⟩
  · simp only [List.cons.injEq, and_true] at hcs
    subst hcs hx
    have hz' : zs.length = cap := by simpa using hz
    have hlen : (zs.take len).length = len := List.length_take_of_le (by omega)
    refine ⟨zs.take len, ⟨some a, cap, by rw [hlen], fun k x hk => ?_⟩, (fun m c' e => by cases e), fun x hx => hwz x (List.mem_of_mem_take hx), .inr ⟨_, _, rfl, by simp [lits]⟩⟩
    have hkl : k < (zs.take len).length := (List.getElem?_eq_some_iff.1 hk).1
    have hc := hcell k (by omega)
    obtain ⟨b, off, spot⟩ := a
    have hspot : spot = none := by simpa [Addr.add] using World.cell?_spot (hcell 0 (by omega))
    subst hspot
    rw [Addr.add_lit] at hc
    obtain ⟨o, ho, _⟩ := cells_of_cell hc
    refine ⟨b, off, rfl, (Array.getElem?_eq_some_iff.1 ho).1, ?_⟩
    have hy : zs.getD k 0 = x := by
      rw [List.getElem?_take_of_lt (by omega)] at hk
      rw [List.getD_eq_getElem?_getD, hk]; rfl
    rw [← hy]
    exact hc
theorem el_span : ∀ n cs (z : DataW H × List MemPlace), cs.length = 4 → TR enc W n 96 cs z → ∃ x : Sp, encSp x = cs ∧ ((0 ≤ x.st ∧ x.st ≤ 255) ∧ RunesAt W x.mv x.map ∧ ∀ m c', x.mv = .slice none m c' → m = 0 ∧ c' = 0) := by
  intro n cs z hl h
  obtain ⟨n', hf⟩ := at_field Tryz.underlying96 (by kernel_rfl) h
  match cs, hl with
  | [c0, c1, c2, c3], _ =>
    obtain ⟨_, h0⟩ := hf 0 _ c0 rfl rfl
    obtain ⟨_, h1⟩ := hf 1 _ c1 rfl rfl
    obtain ⟨_, h2⟩ := hf 2 _ c2 rfl rfl
    obtain ⟨_, h3⟩ := hf 3 _ c3 rfl rfl
    obtain ⟨a, rfl, ha⟩ := is_int Tryz.underlying21 h0
    obtain ⟨b, rfl, hb⟩ := is_int Tryz.underlying21 h1
    obtain ⟨c, rfl, hc⟩ := is_int Tryz.underlying94 h2
    obtain ⟨l, hl1, hl2, _⟩ := open_runes h3
    exact ⟨⟨a, b, c, c3, l⟩, rfl, u8_bd hc, hl1, hl2⟩
theorem len_of {ds : List (DataW H)} {j t e b len : Nat} {D : DataW H} (hw : (DataW.weightsEach Tryz.prog [22, 23, 24, 25, 26] ds).all (· ≤ reachBytes) = true) (ht : ([22, 23, 24, 25, 26] : List TypeId)[j]? = some t) (hd : ds[j]? = some D) (hu : Tryz.prog.underlying t = some (.slice e)) (hb : Tryz.prog.bytesOf e = b) (h4 : 4 ≤ b)
    (h : (D = .nil ∧ len = 0) ∨ ∃ es sp, D = .slice es sp ∧ es.length = len) : len ≤ 35184372088320 := by
  rcases h with ⟨_, rfl⟩ | ⟨es, sp, rfl, rfl⟩
  · exact Nat.zero_le _
  · have h1 := sized_slice hw ht hd hu
    rw [hb] at h1
    have h2 : es.length * 4 ≤ (es.length + sp.length) * b := Nat.mul_le_mul (Nat.le_add_right _ _) h4
    simp only [reachBytes] at h1
    omega
theorem open_cap {t e fuel : Nat} {y : DataW H × List MemPlace} {v : Value} (ht : Tryz.prog.underlying t = some (.slice e)) (h : TR enc W fuel t [v] y) : ∀ p n c, v = .slice p n c → n ≤ c := by
  intro p n c hv
  rcases open_slice ht h with ⟨hcs, hx⟩ | ⟨a, len, cap, m, n2, D, Pl, hcs, h1, hl, h2, hm, hx, hi⟩
  · simp only [List.cons.injEq, and_true] at hcs
    rw [hcs] at hv
    injection hv with _ e1 e2
    omega
  · simp only [List.cons.injEq, and_true] at hcs
    rw [hcs] at hv
    injection hv with _ e1 e2
    omega
set_option maxRecDepth 100000 in
theorem open_tab {base : Nat} {v : Value} {d : DataW H} {p : List MemPlace} (hv : Value.okWide Tryz.prog W .any base 28 v) (h : DataW.Trod enc Tryz.prog W 0 (fun _ => true) true 28 v d p) (hw : (DataW.weights Tryz.prog 28 d).all (· ≤ reachBytes) = true) : ∃ q : TQ, v = q.v ∧ TabAt W q ∧ Good q.T ∧ q.T.pairs.length ≤ q.c2 := by
  obtain ⟨cs, rfl, hsz⟩ := okWide_struct Tryz.underlying28 hv
  have h5 : Tryz.prog.cellsOf 28 = 5 := by kernel_rfl
  obtain ⟨l⟩ := cs
  match l, hsz.trans h5 with
  | [c0, c1, c2, c3, c4], _ =>
    obtain ⟨fuel, hf⟩ := h
    obtain ⟨xs, n, _, hx, _, hlen, hg⟩ := DataW.trod_struct Tryz.underlying28 hf
    match xs, hlen with
    | [y0, y1, y2, y3, y4], _ =>
      simp only [Prod.mk.injEq] at hx
      obtain ⟨rfl, _⟩ := hx
      have hw5 : (DataW.weightsEach Tryz.prog [22, 23, 24, 25, 26] [y0.1, y1.1, y2.1, y3.1, y4.1]).all (· ≤ reachBytes) = true := by
        have e : DataW.weights Tryz.prog 28 (.agg (([y0, y1, y2, y3, y4] : List (DataW H × List MemPlace)).map (·.1))) = DataW.weightsEach Tryz.prog [22, 23, 24, 25, 26] [y0.1, y1.1, y2.1, y3.1, y4.1] := by
          simp [DataW.weights, Tryz.underlying28]
        rw [← e]; exact hw
      have k0 : TR enc W n 22 [c0] y0 := hg 0 _ rfl
      have k1 : TR enc W n 23 [c1] y1 := hg 1 _ rfl
      have k2 : TR enc W n 24 [c2] y2 := hg 2 _ rfl
      have k3 : TR enc W n 25 [c3] y3 := hg 3 _ rfl
      have k4 : TR enc W n 26 [c4] y4 := hg 4 _ rfl
      obtain ⟨l0, a0, b0, e0⟩ := open_list encSp _ Tryz.underlying22 (by kernel_rfl) (by decide) el_span k0
      obtain ⟨l1, a1, b1, e1⟩ := open_list encCl _ Tryz.underlying23 (by kernel_rfl) (by decide) el_class k1
      obtain ⟨l2, a2, b2, e2⟩ := open_list encPa _ Tryz.underlying24 (by kernel_rfl) (by decide) el_pair k2
      obtain ⟨l3, a3, b3, e3⟩ := open_list encSg _ Tryz.underlying25 (by kernel_rfl) (by decide) el_way k3
      obtain ⟨l4, a4, b4, e4⟩ := open_list encSg _ Tryz.underlying26 (by kernel_rfl) (by decide) el_join k4
      have n0 := len_of (len := l0.length) hw5 (j := 0) rfl rfl Tryz.underlying22 (by kernel_rfl) (by decide : 4 ≤ 40) (e0.imp (fun h => ⟨h.1, by rw [h.2]; rfl⟩) id)
      have n1 := len_of (len := l1.length) hw5 (j := 1) rfl rfl Tryz.underlying23 (by kernel_rfl) (by decide : 4 ≤ 8) (e1.imp (fun h => ⟨h.1, by rw [h.2]; rfl⟩) id)
      have n2 := len_of (len := l2.length) hw5 (j := 2) rfl rfl Tryz.underlying24 (by kernel_rfl) (by decide : 4 ≤ 16) (e2.imp (fun h => ⟨h.1, by rw [h.2]; rfl⟩) id)
      have n3 := len_of (len := l3.length) hw5 (j := 3) rfl rfl Tryz.underlying25 (by kernel_rfl) (by decide : 4 ≤ 12) (e3.imp (fun h => ⟨h.1, by rw [h.2]; rfl⟩) id)
      have n4 := len_of (len := l4.length) hw5 (j := 4) rfl rfl Tryz.underlying26 (by kernel_rfl) (by decide : 4 ≤ 12) (e4.imp (fun h => ⟨h.1, by rw [h.2]; rfl⟩) id)
      obtain ⟨p0, z0, rfl, _, _⟩ := id a0
      obtain ⟨p1, z1, rfl, _, _⟩ := id a1
      obtain ⟨p2, z2, rfl, _, _⟩ := id a2
      obtain ⟨p3, z3, rfl, _, _⟩ := id a3
      obtain ⟨p4, z4, rfl, _, _⟩ := id a4
      exact ⟨⟨⟨l0, l1, l2, l3, l4⟩, p0, p1, p2, p3, p4, z0, z1, z2, z3, z4⟩, rfl, ⟨a0, a1, a2, a3, a4, fun x hx => (b0 x hx).2.1⟩, ⟨⟨n0, n1, n2, n3, n4, b1, fun x hx => (b0 x hx).1, b3, b4⟩, b2, fun x hx => (b0 x hx).2.2⟩, open_cap Tryz.underlying24 k2 _ _ _ rfl⟩
end
end Go.Proofs.YtbclodbneonipaaGreat
namespace Go.Proofs.YtbclodbneonipaaGreat
open Go.RowKit N
open Go.ChangeShapes Go.WideShapes Go.Deep
section
variable {H : Type} {enc : TypeId × Value → H} {W : World}
theorem bulk_pos : ∀ d : DataW H, 1 ≤ Rows.uptoBulk d
  | .lit l => by cases l <;> simp [Rows.uptoBulk]
  | .nil => by simp [Rows.uptoBulk]
  | .ptr d => by simp [Rows.uptoBulk]
  | .slice _ _ => by simp [Rows.uptoBulk]
  | .agg _ => by simp [Rows.uptoBulk]
  | .iface _ _ => by simp [Rows.uptoBulk]
  | .map _ => by simp [Rows.uptoBulk]
  | .held _ => by simp [Rows.uptoBulk]
theorem bulk_all : ∀ l : List (DataW H), l.length ≤ Rows.uptoBulkAll l
  | [] => by simp
  | d :: l => by
    have h1 := bulk_pos d
    have h2 := bulk_all l
    rw [Rows.uptoBulkAll, List.length_cons]
    omega
theorem bulk_len {d : DataW H} {n : Nat} (h : (d = .nil ∧ n = 0) ∨ ∃ es sp, d = .slice es sp ∧ es.length = n) : n ≤ Rows.uptoBulk d := by
  rcases h with ⟨rfl, rfl⟩ | ⟨es, sp, rfl, rfl⟩
  · exact Nat.zero_le _
  · have := bulk_all es
    rw [Rows.uptoBulk]
    omega
set_option maxRecDepth 100000 in
theorem open_l32 {base : Nat} {v : Value} {d : DataW H} {p : List MemPlace} (hv : Value.okWide Tryz.prog W .any base 29 v) (h : DataW.Trod enc Tryz.prog W 0 (fun _ => true) true 29 v d p) (hw : (DataW.weights Tryz.prog 29 d).all (· ≤ reachBytes) = true) :
    ∃ l, RunesAt W v l ∧ (∀ m c', v = .slice none m c' → m = 0 ∧ c' = 0) ∧ Wf32 l ∧ 4 * l.length ≤ 140737488351232 ∧ l.length ≤ Rows.uptoBulk d := by
  obtain ⟨a, len, cap, rfl⟩ := okWide_slice Tryz.underlying29 hv
  obtain ⟨fuel, hf⟩ := h
  have hf' : TR enc W fuel 29 [.slice a len cap] (d, p) := by simpa [Value.cells] using hf
  obtain ⟨l, h1, h2, h3, h4⟩ := open_runes hf'
  have h5 : (d = .nil ∧ l.length = 0) ∨ ∃ es sp, d = .slice es sp ∧ es.length = l.length := h4.imp (fun h => ⟨h.1, by rw [h.2]; rfl⟩) id
  refine ⟨l, h1, h2, h3, ?_, bulk_len h5⟩
  rcases h5 with ⟨_, hl⟩ | ⟨es, sp, rfl, hl⟩
  · omega
  · have hwe : (DataW.weightsEach Tryz.prog [29] [(DataW.slice es sp : DataW H)]).all (· ≤ reachBytes) = true := by
      have e : DataW.weightsEach Tryz.prog [29] [(DataW.slice es sp : DataW H)] = DataW.weights Tryz.prog 29 (.slice es sp) := by simp [DataW.weightsEach]
      rw [e]; exact hw
    have hy := sized_slice hwe (j := 0) rfl rfl Tryz.underlying29
    have hby : Tryz.prog.bytesOf 21 = 4 := by kernel_rfl
    rw [hby] at hy
    simp only [reachBytes] at hy
    omega
end
end Go.Proofs.YtbclodbneonipaaGreat
