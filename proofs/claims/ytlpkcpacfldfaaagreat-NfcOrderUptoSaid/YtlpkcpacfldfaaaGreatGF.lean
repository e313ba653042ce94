import Derived.Test.YtlpkcpacfldfaaaGreatAA
import Derived.Maps.OwnSet
import Derived.Maps.OwnOps
import Derived.StillTailTactics
namespace Go.Proofs.YtlpkcpacfldfaaaGreat
open Go.RowKit N
open Go.Maps (Keyed)
/-- how a place reads: its two numbers -/
def plElem (v : Value) : Option (DataW Unit × List MemPlace) :=
  match v with
  | .agg a => match a.toList with
    | [.int .i64 f, .int .i64 t] => some (.agg [.lit (.int .i64 f), .lit (.int .i64 t)], [])
    | _ => none
  | _ => none
theorem plElem_mk (f t : Int) : plElem (.agg #[.int .i64 f, .int .i64 t]) = some (.agg [.lit (.int .i64 f), .lit (.int .i64 t)], []) := rfl
theorem plElem_inv {v : Value} {z : DataW Unit × List MemPlace} (h : plElem v = some z) : ∃ f t : Int, v = .agg #[.int .i64 f, .int .i64 t] ∧ z = (.agg [.lit (.int .i64 f), .lit (.int .i64 t)], []) := by
  unfold plElem at h
  split at h
  · rename_i a
    split at h
    · rename_i f t e
      refine ⟨f, t, ?_, by cases h; rfl⟩
      congr 1
      exact Array.ext' e
    · cases h
  · cases h
abbrev zpl : DataW Unit := .agg [.lit (.int .i64 0), .lit (.int .i64 0)]
theorem law21 : Keyed Tryz.prog 21 := Go.Maps.int_keyed Tryz.underlying21
theorem zeroPl (w : World) : (zeroValue 141).run Tryz.prog w = .ok (.agg #[.int .i64 0, .int .i64 0]) w := by kernel_rfl
theorem key32 {r : Int} (h : (Lit.int .i32 r).wf = true) : keyOf Tryz.prog 21 (.int .i32 r) = some (.int .i32 r) := Go.Maps.keyOf_int_mk Tryz.underlying21 h
theorem wpList_lookup_pl (w : World) {ops : Array Oper} {rest : List Oper} {o : Oper} {a : Act} {Q : Exit → Act → World → Prop} (hg : o.guard = none) (m x : Operand) (hop : o.op = Op.lookup 67 m x true)
    (b n : Nat) (D : DataW Unit) (hm : a.eval m = .map (some b)) (hown : w.ownsMap Tryz.prog 21 plElem b n D) (r : Int) (hx : a.eval x = .int .i32 r) (hr : (Lit.int .i32 r).wf = true) (k : Bool) (hk : Maps.has D (.int .i32 r) = k)
    (hK : ∀ f t : Int, D.atKey (.int .i32 r) zpl = .agg [.lit (.int .i64 f), .lit (.int .i64 t)] → wpList Tryz.prog ops Q rest (a.put o.dst (.tuple #[.agg #[.int .i64 f, .int .i64 t], .bool k])) w) :
    wpList Tryz.prog ops Q (o :: rest) a w :=
  wpList_lookup_own_ok w hg m x 67 hop 21 141 law21 Tryz.underlying67 plElem (zeroPl w) zpl [] (plElem_mk 0 0) b n D hm hown (.int .i32 r) (.int .i32 r) hx (key32 hr) (fun v ps hv => by
    obtain ⟨f, t, rfl, hc⟩ := plElem_inv hv
    rw [hk]
    exact hK f t (congrArg Prod.fst hc))
/-! how many runes there can be -/
theorem pigeon : ∀ (n : Nat) (l : List Nat), l.Nodup → (∀ x ∈ l, x < n) → l.length ≤ n
  | 0, l, _, h => by
    cases l with
    | nil => simp
    | cons x l => exact absurd (h x (by simp)) (by omega)
  | n + 1, l, hd, h => by
    have h1 := pigeon n (l.filter (fun x => x != n)) (hd.filter _) (fun x hx => by
      obtain ⟨h1, h2⟩ := List.mem_filter.1 hx
      have := h x h1
      have : x ≠ n := by simpa using h2
      omega)
    have h2 : l.length ≤ (l.filter (fun x => x != n)).length + 1 := by
      clear h1 h
      induction l with
      | nil => simp
      | cons y l ih =>
        have hdy := List.nodup_cons.1 hd
        by_cases hy : y = n
        · have e : l.filter (fun x => x != n) = l := List.filter_eq_self.2 fun x hx => by
            have : x ≠ n := fun e => hdy.1 (by rw [hy, ← e]; exact hx)
            simpa using this
          rw [List.filter_cons_of_neg (by simp [hy]), e]
          simp
        · rw [List.filter_cons_of_pos (by simpa using hy)]
          have := ih hdy.2
          simp only [List.length_cons]
          omega
    omega
def natKey : Lit → Nat
  | .int _ a => (a + 2147483648).toNat
  | _ => 0
theorem own_cap {w : World} {b n : Nat} {D : DataW Unit} {R : Value → Option (DataW Unit × List MemPlace)} (h : w.ownsMap Tryz.prog 21 R b n D) : w.ownsMap Tryz.prog 21 R b 4294967296 D := by
  obtain ⟨es, clock, hb, F, _, hD⟩ := h
  refine ⟨es, clock, hb, F, ?_, hD⟩
  have hap := Go.Maps.fit_apart law21 F
  have hkeys := Go.Maps.fit_keys F
  have hform : ∀ p ∈ es.toList.map (WideElems.rg Tryz.prog 21 R), ∃ a : Int, p.1 = .int .i32 a ∧ -2147483648 ≤ a ∧ a ≤ 2147483647 := fun p hp => by
    obtain ⟨v, hv⟩ := hkeys p hp
    cases v <;> simp [keyOf, mapKey, Tryz.underlying21] at hv
    obtain ⟨⟨rfl, hw⟩, hp⟩ := hv
    simp only [Lit.wf, Bool.and_eq_true, decide_eq_true_eq] at hw
    exact ⟨_, hp.symm, hw⟩
  have hn : ((es.toList.map (WideElems.rg Tryz.prog 21 R)).map (fun p => natKey p.1)).Nodup := by
    unfold List.Nodup
    rw [List.pairwise_map]
    refine List.Pairwise.imp_of_mem (fun {p q} hp hq hne he => ?_) hap
    obtain ⟨a, ha, a0, a1⟩ := hform p hp
    obtain ⟨c, hc, c0, c1⟩ := hform q hq
    rw [ha, hc] at he hne
    simp only [natKey] at he
    exact hne (by congr 1; omega)
  have := pigeon 4294967296 _ hn (fun x hx => by
    obtain ⟨p, hp, rfl⟩ := List.mem_map.1 hx
    obtain ⟨a, ha, a0, a1⟩ := hform p hp
    rw [ha]
    simp only [natKey]
    omega)
  simpa using this
/-! what is known -/
def Known (L : List Pa) (D : DataW Unit) (l : List Int) : Prop := ∀ r : Int, Maps.has D (.int .i32 r) = true → ∃ f t : Nat, D.atKey (.int .i32 r) zpl = .agg [.lit (.int .i64 f), .lit (.int .i64 t)] ∧ f ≤ t ∧ t ≤ l.length ∧ (l.take t).drop f = apt L r
theorem known_none (L : List Pa) : Known L (.map []) [] := fun r h => by simp [Maps.has] at h
theorem known_more {L : List Pa} {D : DataW Unit} {l : List Int} (h : Known L D l) (m : List Int) : Known L D (l ++ m) := fun r hr => by
  obtain ⟨f, t, h1, h2, h3, h4⟩ := h r hr
  refine ⟨f, t, h1, h2, by rw [List.length_append]; omega, ?_⟩
  rw [List.take_append_of_le_length h3]
  exact h4
theorem known_put {L : List Pa} {D : DataW Unit} {l : List Int} (hm : Maps.IsMap D) (r : Int) (h : Known L D (l ++ apt L r)) :
    Known L (D.put (.int .i32 r) (.agg [.lit (.int .i64 (l.length : Nat)), .lit (.int .i64 ((l ++ apt L r).length : Nat))])) (l ++ apt L r) := fun r' hr' => by
  by_cases e : r' = r
  · subst e
    refine ⟨l.length, (l ++ apt L r').length, Maps.atKey_put_same (k := .int .i32 r') hm trivial _ _, by rw [List.length_append]; omega, Nat.le_refl _, ?_⟩
    rw [List.take_length, List.drop_left]
  · have hne : (Lit.int .i32 r') ≠ .int .i32 r := fun h => e (by injection h)
    rw [Maps.has_put_other hne] at hr'
    obtain ⟨f, t, h1, h2⟩ := h r' hr'
    exact ⟨f, t, by rw [Maps.atKey_put_other hne]; exact h1, h2⟩
end Go.Proofs.YtlpkcpacfldfaaaGreat
namespace Go.Proofs.YtlpkcpacfldfaaaGreat
open Go.RowKit N
theorem own_nemap {w : World} {base : Nat} {e : TypeId} {size n m : Nat} {v : Value} {xs : List Value} {es : Array MapEntry} {c : Nat} (h : w.ownsRow base e size v n xs) (hg : Has w m (.map es c)) : v.ownBlock = none ∨ v.ownBlock ≠ some m := by
  rcases h.2 with ⟨rfl, _⟩ | ⟨g', cap, cur, rfl, _, hh, _⟩
  · exact .inl rfl
  · refine .inr fun he => ?_
    have : g' = m := by simpa [Value.ownBlock] using he
    subst this
    unfold Has at hg
    rw [hh] at hg
    injection hg with hg
    cases hg
/-- the maps of w are in w' as they were -/
def MapsKept (w w' : World) : Prop := ∀ b es c, Has w b (.map es c) → Has w' b (.map es c)
theorem MapsKept.trans {a b c : World} (h : MapsKept a b) (k : MapsKept b c) : MapsKept a c := fun x es n hx => k x es n (h x es n hx)
theorem MapsKept.below {w w' : World} (h : Below w.heap.size w w') : MapsKept w w' := fun _ _ _ hx => hx.to h
theorem MapsKept.set {w : World} {g i : Nat} {cs : Array Value} {t : TypeId} (hG : Has w g (.cells cs t)) (u : Value) : MapsKept w (w.setCell ⟨g, i, none⟩ u) := fun b es c hb => hb.far (p := ⟨g, i, none⟩) (fun e => by
  unfold Has at hG hb
  have e' : b = g := e
  rw [e', hG] at hb
  injection hb with hb
  cases hb) u
theorem MapsKept.owns {w w' : World} {b n : Nat} {D : DataW Unit} {R : Value → Option (DataW Unit × List MemPlace)} {k : TypeId} (h : MapsKept w w') (ho : w.ownsMap Tryz.prog k R b n D) : w'.ownsMap Tryz.prog k R b n D := by
  obtain ⟨es, clock, hb, rest⟩ := ho
  exact ⟨es, clock, h b es clock hb, rest⟩
/-- the structs of w (but those of the kinds 21, 69) are in w' as they were -/
def CellsKept (w w' : World) : Prop := ∀ b cs t, Has w b (.cells cs t) → t ≠ 21 → t ≠ 69 → Has w' b (.cells cs t)
theorem CellsKept.trans {a b c : World} (h : CellsKept a b) (k : CellsKept b c) : CellsKept a c := fun x cs t hx e1 e2 => k x cs t (h x cs t hx e1 e2) e1 e2
theorem CellsKept.below {w w' : World} (h : Below w.heap.size w w') : CellsKept w w' := fun _ _ _ hx _ _ => hx.to h
theorem CellsKept.set {w : World} {g i : Nat} {cs : Array Value} (hG : Has w g (.cells cs 69)) (u : Value) : CellsKept w (w.setCell ⟨g, i, none⟩ u) := fun b cs' t hb _ ht => hb.far (p := ⟨g, i, none⟩) (fun e => by
  unfold Has at hG hb
  have e' : b = g := e
  rw [e', hG] at hb
  injection hb with hb
  injection hb with _ hb
  exact ht hb.symm) u
set_option maxRecDepth 20000 in
set_option maxHeartbeats 1000000 in
theorem add_yes2 (g : Nat) (q : TQ) (outv mapv mv : Value) (l m : List Int) (hyes : l.length + m.length ≤ 4096) (w0 w : World) (hb0 : Below w0.heap.size w0 w) (hgB : w0.heap.size ≤ g) (hG : Has w g (.cells (AC q outv mapv) 69)) (hO : Own w w0.heap.size outv l) (hM : RunesAt w mv m) (hn : ∀ n c, mv = .slice none n c → n = 0 ∧ c = 0) :
    Calls Tryz.prog 96 #[.pointer (some ⟨g, 0, none⟩), mv] w fun e w' => e = .returned (.bool true) ∧ ∃ outv', Has w' g (.cells (AC q outv' mapv) 69) ∧ Own w' w0.heap.size outv' (l ++ m) ∧ Below w0.heap.size w0 w' ∧ MapsKept w w' ∧ CellsKept w w' := by
  obtain ⟨i0, hi, hz0, hz1, hz2⟩ := info_parts infoRune
  obtain ⟨p, cap, rfl, _⟩ := hO.form
  obtain ⟨p2, cap2, rfl, _⟩ := id hM
  have c5 : w.cell? ⟨g, 5, none⟩ = some (.slice p l.length cap) := hG.cell 5 rfl
  have hd2 : ¬ 4096 < (l.length : Int) + (m.length : Int) := by omega
  have HG := Lib.hid hG
  have HO := Lib.hid hO
  have HM := Lib.hid hM
  have HN := Lib.hid hn
  have HB0 := Lib.hid hb0
  have hB := hb0.size
  clear hG hO hM hn hb0
  go_enter Tryz.func96, Tryz.ntmps96
  go_wp2_with (at_builtin; refine wpList_append_runes (by rfl) _ _ rfl w0.heap.size i0 Tryz.underlying29 hi hz0 hz1 hz2 (.slice p l.length cap) l.length (l.map (Value.int .i32)) rfl HO.out (.slice p2 m.length cap2) m rfl HM.out HN.out (by unfold maxLen; omega) (by omega) hB ?_; intro v3 w3 hown3 hgrow3; have HC3 : Hid (CellsKept w w3) := Lib.hid (fun b cs t hb ht _ => has_past (v := .slice p l.length cap) hb hgrow3 (own_ne HO.out hb (Ne.symm ht))); have HK3 : Hid (MapsKept w w3) := Lib.hid (fun b es c hb => has_past (v := .slice p l.length cap) hb hgrow3 (own_nemap HO.out hb)); have HG3 : Hid (Has w3 g (.cells (AC q (.slice p l.length cap) mapv) 69)) := Lib.hid (has_past (v := .slice p l.length cap) HG.out hgrow3 (own_ne HO.out HG.out (by decide))); have HO3 : Hid (Own w3 w0.heap.size v3 (l ++ m)) := Lib.hid (own_app hown3); have HB3 : Hid (Below w0.heap.size w0 w3) := Lib.hid (bel_grown (v := .slice p l.length cap) HB0.out HO.out hgrow3 hB); clear hown3 hgrow3; have k5 : w3.cell? ⟨g, 5, none⟩ = some (.slice p l.length cap) := HG3.out.cell 5 rfl; have kz5 := HG3.out.free 5; obtain ⟨p3, cap3, rfl, _⟩ := HO3.out.form)
  have e9 : Value.slice p3 (l ++ m).length cap3 = .slice p3 (l.length + m.length) cap3 := by simp
  have HO5 := HO3.out
  rw [e9] at HO5
  go_ret
  refine ⟨rfl, .slice p3 (l.length + m.length) cap3, ?_, ?_, HB3.out.setCell (p := ⟨g, 5, none⟩) hgB _, HK3.out.trans (MapsKept.set HG3.out _), HC3.out.trans (CellsKept.set HG3.out _)⟩
  · have := HG3.out.set 5 (.slice p3 (l.length + m.length) cap3); exact this
  · exact own_set HO5 HG3.out (by decide) 5 _
/-- an apart: the table, what has been taken apart, what is known -/
def AS (w0 : World) (q : TQ) (g m : Nat) (w : World) (l : List Int) : Prop := ∃ outv D, Has w g (.cells (AC q outv (.map (some m))) 69) ∧ Own w w0.heap.size outv l ∧ w.ownsMap Tryz.prog 21 plElem m 4294967296 D ∧ Known q.T.pairs D l ∧ Below w0.heap.size w0 w ∧ w0.heap.size ≤ g ∧ w0.heap.size ≤ m ∧ l.length ≤ 4096
theorem AS.to {w0 w w' : World} {q : TQ} {g m : Nat} {l : List Int} (h : AS w0 q g m w l) (hb : Below w.heap.size w w') : AS w0 q g m w' l := by
  obtain ⟨outv, D, h1, h2, h3, h4, h5, h6, h7, h8⟩ := h
  exact ⟨outv, D, h1.to hb, h2.to hb, (MapsKept.below hb).owns h3, h4, h5.trans (hb.mono h5.size), h6, h7, h8⟩
/-- what comes of adding x, which is told by b -/
def AA2 (w0 : World) (q : TQ) (g m : Nat) (l x : List Int) (b : Bool) (w w' : World) : Prop := (b = true ∧ AS w0 q g m w' (l ++ x) ∧ CellsKept w w') ∨ (b = false ∧ 4096 < l.length + x.length ∧ Below w0.heap.size w0 w')
theorem add_is (g m : Nat) (q : TQ) (mv : Value) (l x : List Int) (hx : x.length ≤ 4096) (w0 w : World) (h : AS w0 q g m w l) (hM : RunesAt w mv x) (hn : ∀ n c, mv = .slice none n c → n = 0 ∧ c = 0) :
    Calls Tryz.prog 96 #[.pointer (some ⟨g, 0, none⟩), mv] w fun e w' => ∃ b, e = .returned (.bool b) ∧ AA2 w0 q g m l x b w w' := by
  obtain ⟨outv, D, h1, h2, h3, h4, h5, h6, h7, h8⟩ := h
  by_cases hy : l.length + x.length ≤ 4096
  · refine (add_yes2 g q outv (.map (some m)) mv l x hy w0 w h5 h6 h1 h2 hM hn).mono ?_
    rintro e w' ⟨he, outv', k1, k2, k3, k4, k5⟩
    exact ⟨true, he, .inl ⟨rfl, ⟨outv', D, k1, k2, k4.owns h3, known_more h4 x, k3, h6, h7, by rw [List.length_append]; omega⟩, k5⟩⟩
  · refine (add_no g q outv (.map (some m)) mv l x h8 (by omega) (by omega) w w0.heap.size h1 h2 hM).mono ?_
    rintro e w' ⟨he, k1⟩
    exact ⟨false, he, .inr ⟨rfl, by omega, h5.trans (k1.mono h5.size)⟩⟩
theorem AA2.from {w0 : World} {q : TQ} {g m : Nat} {l x : List Int} {b : Bool} {w w1 w' : World} (hb : Below w.heap.size w w1) (h : AA2 w0 q g m l x b w1 w') : AA2 w0 q g m l x b w w' := by
  rcases h with ⟨h1, h2, h3⟩ | h
  · exact .inl ⟨h1, h2, (CellsKept.below hb).trans h3⟩
  · exact .inr h
end Go.Proofs.YtlpkcpacfldfaaaGreat
namespace Go.Proofs.YtlpkcpacfldfaaaGreat
open Go.RowKit N
theorem wpList_lookup_at (w : World) {ops : Array Oper} {rest : List Oper} {o : Oper} {a : Act} {Q : Exit → Act → World → Prop} (hg : o.guard = none) (m x : Operand) (hop : o.op = Op.lookup 67 m x true)
    (b n : Nat) (D : DataW Unit) (hm : a.eval m = .map (some b)) (hown : w.ownsMap Tryz.prog 21 plElem b n D) (r : Int) (hx : a.eval x = .int .i32 r) (hr : (Lit.int .i32 r).wf = true) (k : Bool) (hk : Maps.has D (.int .i32 r) = k) (f t : Int)
    (hat : D.atKey (.int .i32 r) zpl = .agg [.lit (.int .i64 f), .lit (.int .i64 t)])
    (hK : wpList Tryz.prog ops Q rest (a.put o.dst (.tuple #[.agg #[.int .i64 f, .int .i64 t], .bool k])) w) :
    wpList Tryz.prog ops Q (o :: rest) a w :=
  wpList_lookup_pl w hg m x hop b n D hm hown r hx hr k hk fun f' t' hat' => by
    rw [hat] at hat'
    simp only [DataW.agg.injEq, List.cons.injEq, DataW.lit.injEq, Lit.int.injEq, and_true, true_and] at hat'
    obtain ⟨rfl, rfl⟩ := hat'
    exact hK
/-- w' is behind w -/
def Behind (w w' : World) : Prop := Below w.heap.size w w'
set_option maxRecDepth 20000 in
set_option maxHeartbeats 1000000 in
theorem take_known (g m : Nat) (q : TQ) (l : List Int) (r : Int) (hr : (Lit.int .i32 r).wf = true) (w0 w : World) (outv : Value) (D : DataW Unit) (h1 : Has w g (.cells (AC q outv (.map (some m))) 69)) (h2 : Own w w0.heap.size outv l) (h3 : w.ownsMap Tryz.prog 21 plElem m 4294967296 D) (h4 : Known q.T.pairs D l) (h5 : Below w0.heap.size w0 w) (h6 : w0.heap.size ≤ g) (h7 : w0.heap.size ≤ m) (h8 : l.length ≤ 4096) (hk : Maps.has D (.int .i32 r) = true) :
    Calls Tryz.prog 46 #[.pointer (some ⟨g, 0, none⟩), .int .i32 r] w fun e w' => ∃ b, e = .returned (.bool b) ∧ AA2 w0 q g m l (apt q.T.pairs r) b w w' := by
  obtain ⟨f, t, hat, hft, htl, hseg⟩ := h4 r hk
  have hlen : (apt q.T.pairs r).length = t - f := by rw [← hseg, List.length_drop, List.length_take]; omega
  have hpos := apt_pos q.T.pairs r
  obtain ⟨p, cap, rfl, hcells⟩ := id h2.form
  obtain ⟨go, rfl, y1, y2, y3, y4⟩ := hcells 0 (l[0]'(by omega)) (List.getElem?_eq_getElem (by omega))
  have hcap : l.length ≤ cap := by
    rcases h2.2 with ⟨he, _⟩ | ⟨_, _, _, he, _, _, hc, _⟩
    · cases he
    · injection he with e1 e2 e3; omega
  have hR0 : RunesAt w (.slice (some ⟨go, f, none⟩) (t - f) (cap - f)) (apt q.T.pairs r) := by
    refine ⟨some ⟨go, f, none⟩, cap - f, by rw [hlen], fun k x hx => ?_⟩
    rw [← hseg, List.getElem?_drop] at hx
    have hkt : f + k < t := by
      have := (List.getElem?_eq_some_iff.1 hx).1
      rw [List.length_take] at this
      omega
    rw [List.getElem?_take_of_lt hkt] at hx
    obtain ⟨g', hg', z1, z2, z3, z4⟩ := hcells (f + k) x hx
    simp only [Option.some.injEq, Addr.mk.injEq, and_true] at hg'
    subst hg'
    exact ⟨go, f, rfl, z2, z3⟩
  have HR0 := Lib.hid hR0
  have HAS : Hid (AS w0 q g m w l) := Lib.hid ⟨_, D, h1, h2, h3, h4, h5, h6, h7, h8⟩
  have HM := Lib.hid h3
  have c5 : w.cell? ⟨g, 5, none⟩ = some (.slice (some ⟨go, 0, none⟩) l.length cap) := h1.cell 5 rfl
  have c6 : w.cell? ⟨g, 6, none⟩ = some (.map (some m)) := h1.cell 6 rfl
  have HS := Lib.hid (And.intro hseg (And.intro hlen hpos))
  clear h1 h2 h3 h4 h5 h6 h7 hcells hseg hlen y1 y2 y3 y4 hpos hR0
  go_enter Tryz.func46, Tryz.ntmps46
  go_wp2_with (first | (at_lookup; refine wpList_lookup_at _ rfl _ _ rfl m 4294967296 D rfl HM.out r rfl hr true hk (f : Nat) (t : Nat) hat ?_) | fail)
  have hbw := bnew w (.cells #[.int .i64 (f : Int), .int .i64 (t : Int)] 141)
  have d5 : (w.alloc (.cells #[.int .i64 (f : Int), .int .i64 (t : Int)] 141)).cell? ⟨g, 5, none⟩ = some (.slice (some ⟨go, 0, none⟩) l.length cap) := by
    obtain ⟨outv, D', k1, _⟩ := HAS.out
    exact (hbw.cell (p := ⟨g, 5, none⟩) k1.lt).trans c5
  have hnew := Has.new w (.cells #[.int .i64 (f : Int), .int .i64 (t : Int)] 141)
  have e0 := hnew.cell 0 rfl
  have e1 := hnew.cell 1 rfl
  have HA1 := Lib.hid (HAS.out.to hbw)
  have HR1 : Hid (RunesAt (w.alloc (.cells #[.int .i64 (f : Int), .int .i64 (t : Int)] 141)) (.slice (some ⟨go, f, none⟩) (t - f) (cap - f)) (apt q.T.pairs r)) := Lib.hid (HR0.out.below hbw)
  have htc : t ≤ cap := by omega
  have hcf : ¬ cap = f := by obtain ⟨_, h1, h2⟩ := HS.out; omega
  have HBW : Hid (Behind w (w.alloc (.cells #[.int .i64 (f : Int), .int .i64 (t : Int)] 141)).drew) := Lib.hid hbw.drew
  clear hbw hnew HR0 c5 c6 HAS HM hat hk
  generalize w.heap.size = G at *
  obtain ⟨w1, hw1⟩ : ∃ w1, w1 = w.alloc (.cells #[.int .i64 (f : Int), .int .i64 (t : Int)] 141) := ⟨_, rfl⟩
  rw [← hw1] at d5 e0 e1 HA1 HR1 HBW
  simp only [← hw1]
  clear hw1
  refine wp_region_still_tail 10 (by kernel_rfl) (by kernel_rfl) ?_
  simp only [List.take_succ_cons, List.take_zero, List.drop_succ_cons, List.drop_zero]
  repeat still_step
  refine wpStill_nil ?_
  change wpList _ _ _ _ _ w1.drew
  go_wp2_with fail
  refine (add_is g m q _ l (apt q.T.pairs r) (by have := HS.out.2.1; omega) w0 _ (HA1.out.to (Below.refl _ w1).drew) (HR1.out.below (Below.refl _ w1).drew) (fun n c e => by cases e)).mono ?_
  rintro e w2 ⟨b, rfl, hA⟩
  go_wp2
  go_ret
  exact ⟨b, rfl, hA.from HBW.out⟩
end Go.Proofs.YtlpkcpacfldfaaaGreat
namespace Go.Proofs.YtlpkcpacfldfaaaGreat
open Go.RowKit N
/-- what taking r apart does -/
def Does (f : FuncId) (w0 : World) (q : TQ) (g m : Nat) (r : Int) : Prop := ∀ (w : World) (l : List Int), AS w0 q g m w l → Calls Tryz.prog f #[.pointer (some ⟨g, 0, none⟩), .int .i32 r] w fun e w' => ∃ b, e = .returned (.bool b) ∧ AA2 w0 q g m l (apt q.T.pairs r) b w w'
set_option maxRecDepth 20000 in
set_option maxHeartbeats 1000000 in
theorem parts_syl (g m : Nat) (q : TQ) (r : Int) (w0 : World) (hF : Falls q.T.pairs) (hs : syl r = true) : Does 97 w0 q g m r := by
  intro w l h
  have HA := Lib.hid h
  have HE := Lib.hid (apt_syl hF hs)
  clear h
  go_enter Tryz.func97, Tryz.ntmps97
  go_wp2_with fail
  refine (issyl_is r true hs _).mono ?_
  rintro e w1 ⟨rfl, rfl⟩
  go_wp2_with fail
  refine (split_is r hs _).mono ?_
  rintro e w1 ⟨p, c, rfl, ho, hb⟩
  have HA1 := Lib.hid (HA.out.to hb)
  have HO := Lib.hid ho.at
  have HBW := Lib.hid hb
  have hsl := split_len r
  clear ho hb
  go_wp2_with fail
  refine (add_is g m q _ l (split r) (by omega) w0 _ HA1.out HO.out (fun n c e => by cases e)).mono ?_
  rintro e w2 ⟨b, rfl, hA⟩
  rw [← HE.out] at hA
  go_wp2
  go_ret
  exact ⟨b, rfl, hA.from HBW.out⟩
set_option maxRecDepth 20000 in
set_option maxHeartbeats 1000000 in
theorem parts_none (g m : Nat) (q : TQ) (r : Int) (w0 : World) (hT0 : TabAt w0 q) (hf : Fit q.T) (hF : Falls q.T.pairs) (hs : syl r = false) (hp : prL q.T.pairs r = none) : Does 97 w0 q g m r := by
  intro w l h
  have HA := Lib.hid h
  have HE := Lib.hid (apt_none hF hs hp)
  have HT0 := Lib.hid hT0
  have HF := Lib.hid hf
  have HP := Lib.hid hp
  obtain ⟨outv, D, h1, h2, h3, h4, h5, h6, h7, h8⟩ := h
  have HB := Lib.hid h5
  have m0 : w.cell? ⟨g, 0, none⟩ = some (.slice q.p0 q.T.spans.length q.c0) := h1.cell 0 rfl
  have m1 : w.cell? ⟨g, 1, none⟩ = some (.slice q.p1 q.T.classes.length q.c1) := h1.cell 1 rfl
  have m2 : w.cell? ⟨g, 2, none⟩ = some (.slice q.p2 q.T.pairs.length q.c2) := h1.cell 2 rfl
  have m3 : w.cell? ⟨g, 3, none⟩ = some (.slice q.p3 q.T.ways.length q.c3) := h1.cell 3 rfl
  have m4 : w.cell? ⟨g, 4, none⟩ = some (.slice q.p4 q.T.joins.length q.c4) := h1.cell 4 rfl
  clear h1 h2 h3 h4 h5 h6 h7 hT0 hf hp
  go_enter Tryz.func97, Tryz.ntmps97
  go_wp2_with fail
  refine (issyl_is r false hs _).mono ?_
  rintro e w1 ⟨rfl, rfl⟩
  go_wp2_with fail
  refine (pair_none q r HP.out _ (HT0.out.below HB.out) HF.out).mono ?_
  rintro e w1 ⟨rfl, hb⟩
  have HA1 := Lib.hid (HA.out.to hb)
  have HBW := Lib.hid hb
  clear hb m0 m1 m2 m3 m4
  go_wp2_with fail
  have HA2 := Lib.hid ((HA1.out.to (bnew w1 (.cells #[.int .i32 0, .int .i32 0, .int .i32 0, .bool false] 54))).to (bnew (w1.alloc (.cells #[.int .i32 0, .int .i32 0, .int .i32 0, .bool false] 54)) (.cells #[.int .i32 r] 21)))
  have hn1 := Has.new (w1.alloc (.cells #[.int .i32 0, .int .i32 0, .int .i32 0, .bool false] 54)) (.cells #[.int .i32 r] 21)
  rw [World.size_alloc] at hn1
  have hR := runes_lit (l := [r]) hn1 1
  have HBX := Lib.hid ((HBW.out.alloc HBW.out.size (.cells #[.int .i32 0, .int .i32 0, .int .i32 0, .bool false] 54)).alloc (by rw [World.size_alloc]; have := HBW.out.size; omega) (.cells #[.int .i32 r] 21))
  refine (add_is g m q _ l [r] (by simp) w0 _ HA2.out hR (fun n c e => by cases e)).mono ?_
  rintro e w2 ⟨b, rfl, hA⟩
  rw [← HE.out] at hA
  go_wp2
  go_ret
  exact ⟨b, rfl, hA.from HBX.out⟩
set_option maxRecDepth 20000 in
set_option maxHeartbeats 1000000 in
theorem parts_one (g m : Nat) (q : TQ) (r : Int) (y : Pa) (w0 : World) (hT0 : TabAt w0 q) (hf : Fit q.T) (hF : Falls q.T.pairs) (hs : syl r = false) (hp : prL q.T.pairs r = some y) (hb0 : y.b = 0) (ih : Does 46 w0 q g m y.a) : Does 97 w0 q g m r := by
  intro w l h
  have HA := Lib.hid h
  have HE := Lib.hid (apt_one hF hs hp hb0)
  have HT0 := Lib.hid hT0
  have HF := Lib.hid hf
  have HP := Lib.hid hp
  have IH := Lib.hid ih
  have hbz : (y.b == 0) = true := by simp [hb0]
  obtain ⟨outv, D, h1, h2, h3, h4, h5, h6, h7, h8⟩ := h
  have HB := Lib.hid h5
  have m0 : w.cell? ⟨g, 0, none⟩ = some (.slice q.p0 q.T.spans.length q.c0) := h1.cell 0 rfl
  have m1 : w.cell? ⟨g, 1, none⟩ = some (.slice q.p1 q.T.classes.length q.c1) := h1.cell 1 rfl
  have m2 : w.cell? ⟨g, 2, none⟩ = some (.slice q.p2 q.T.pairs.length q.c2) := h1.cell 2 rfl
  have m3 : w.cell? ⟨g, 3, none⟩ = some (.slice q.p3 q.T.ways.length q.c3) := h1.cell 3 rfl
  have m4 : w.cell? ⟨g, 4, none⟩ = some (.slice q.p4 q.T.joins.length q.c4) := h1.cell 4 rfl
  clear h1 h2 h3 h4 h5 h6 h7 hT0 hf hp ih hb0
  go_enter Tryz.func97, Tryz.ntmps97
  go_wp2_with fail
  refine (issyl_is r false hs _).mono ?_
  rintro e w1 ⟨rfl, rfl⟩
  go_wp2_with fail
  refine (pair_some q r y HP.out _ (HT0.out.below HB.out) HF.out).mono ?_
  rintro e w1 ⟨rfl, hb⟩
  have HA1 := Lib.hid ((HA.out.to hb).to (bnew w1 (.cells #[.int .i32 y.r, .int .i32 y.a, .int .i32 y.b, .bool y.one] 54)))
  have HBW := Lib.hid (hb.alloc hb.size (.cells #[.int .i32 y.r, .int .i32 y.a, .int .i32 y.b, .bool y.one] 54))
  have HN := Lib.hid (Has.new w1 (.cells #[.int .i32 y.r, .int .i32 y.a, .int .i32 y.b, .bool y.one] 54))
  clear hb m0 m1 m2 m3 m4
  go_wp2_with fail
  refine (IH.out _ l HA1.out).mono ?_
  rintro e w2 ⟨b, rfl, hA⟩
  rw [← HE.out] at hA
  have HA2 := Lib.hid hA
  clear hA
  cases b with
  | false =>
    go_wp2
    go_ret
    exact ⟨false, rfl, HA2.out.from HBW.out⟩
  | true =>
    have hA := HA2.out
    rcases hA with ⟨_, hS, hC⟩ | ⟨hno, _⟩
    · have hN := hC _ _ _ HN.out (by decide) (by decide)
      have n2 : w2.cell? ⟨w1.heap.size, 2, none⟩ = some (.int .i32 y.b) := hN.cell 2 rfl
      clear hS hC hN
      go_wp2
      go_ret
      exact ⟨true, rfl, HA2.out.from HBW.out⟩
    · cases hno
theorem AA2.less {w0 : World} {q : TQ} {g m : Nat} {l x : List Int} {w w' : World} (h : AA2 w0 q g m l x false w w') (y : List Int) : AA2 w0 q g m l (x ++ y) false w w' := by
  rcases h with ⟨h1, _⟩ | ⟨h1, h2, h3⟩
  · cases h1
  · exact .inr ⟨h1, by rw [List.length_append]; omega, h3⟩
theorem AA2.after {w0 : World} {q : TQ} {g m : Nat} {l x y : List Int} {b : Bool} {w w1 w' : World} (h : AA2 w0 q g m (l ++ x) y b w1 w') (hc : CellsKept w w1) : AA2 w0 q g m l (x ++ y) b w w' := by
  rcases h with ⟨h1, h2, h3⟩ | ⟨h1, h2, h3⟩
  · exact .inl ⟨h1, by rw [← List.append_assoc]; exact h2, hc.trans h3⟩
  · refine .inr ⟨h1, ?_, h3⟩
    rw [List.length_append] at h2
    rw [List.length_append]
    omega
set_option maxRecDepth 20000 in
set_option maxHeartbeats 1000000 in
theorem parts_two (g m : Nat) (q : TQ) (r : Int) (y : Pa) (w0 : World) (hT0 : TabAt w0 q) (hf : Fit q.T) (hF : Falls q.T.pairs) (hs : syl r = false) (hp : prL q.T.pairs r = some y) (hb0 : y.b ≠ 0) (ih : Does 46 w0 q g m y.a) (ih2 : Does 46 w0 q g m y.b) : Does 97 w0 q g m r := by
  intro w l h
  have HA := Lib.hid h
  have HE := Lib.hid (apt_two hF hs hp hb0)
  have HT0 := Lib.hid hT0
  have HF := Lib.hid hf
  have HP := Lib.hid hp
  have IH := Lib.hid ih
  have IH2 := Lib.hid ih2
  have hbz : (y.b == 0) = false := by simp [hb0]
  obtain ⟨outv, D, h1, h2, h3, h4, h5, h6, h7, h8⟩ := h
  have HB := Lib.hid h5
  have m0 : w.cell? ⟨g, 0, none⟩ = some (.slice q.p0 q.T.spans.length q.c0) := h1.cell 0 rfl
  have m1 : w.cell? ⟨g, 1, none⟩ = some (.slice q.p1 q.T.classes.length q.c1) := h1.cell 1 rfl
  have m2 : w.cell? ⟨g, 2, none⟩ = some (.slice q.p2 q.T.pairs.length q.c2) := h1.cell 2 rfl
  have m3 : w.cell? ⟨g, 3, none⟩ = some (.slice q.p3 q.T.ways.length q.c3) := h1.cell 3 rfl
  have m4 : w.cell? ⟨g, 4, none⟩ = some (.slice q.p4 q.T.joins.length q.c4) := h1.cell 4 rfl
  clear h1 h2 h3 h4 h5 h6 h7 hT0 hf hp ih ih2 hb0
  go_enter Tryz.func97, Tryz.ntmps97
  go_wp2_with fail
  refine (issyl_is r false hs _).mono ?_
  rintro e w1 ⟨rfl, rfl⟩
  go_wp2_with fail
  refine (pair_some q r y HP.out _ (HT0.out.below HB.out) HF.out).mono ?_
  rintro e w1 ⟨rfl, hb⟩
  have HA1 := Lib.hid ((HA.out.to hb).to (bnew w1 (.cells #[.int .i32 y.r, .int .i32 y.a, .int .i32 y.b, .bool y.one] 54)))
  have HBW := Lib.hid (hb.alloc hb.size (.cells #[.int .i32 y.r, .int .i32 y.a, .int .i32 y.b, .bool y.one] 54))
  have HN := Lib.hid (Has.new w1 (.cells #[.int .i32 y.r, .int .i32 y.a, .int .i32 y.b, .bool y.one] 54))
  clear hb m0 m1 m2 m3 m4
  go_wp2_with fail
  refine (IH.out _ l HA1.out).mono ?_
  rintro e w2 ⟨b, rfl, hA⟩
  have HA2 := Lib.hid hA
  clear hA
  cases b with
  | false =>
    go_wp2
    go_ret
    exact ⟨false, rfl, by rw [HE.out]; exact (HA2.out.less _).from HBW.out⟩
  | true =>
    have hA := HA2.out
    rcases hA with ⟨_, hS, hC⟩ | ⟨hno, _⟩
    · have hN := hC _ _ _ HN.out (by decide) (by decide)
      have n2 : w2.cell? ⟨w1.heap.size, 2, none⟩ = some (.int .i32 y.b) := hN.cell 2 rfl
      have HS2 := Lib.hid hS
      have HC2 := Lib.hid hC
      clear hS hC hN
      go_wp2_with fail
      refine (IH2.out _ _ HS2.out).mono ?_
      rintro e w3 ⟨b2, rfl, hA⟩
      have HA3 := Lib.hid hA
      clear hA
      go_wp2
      go_ret
      exact ⟨b2, rfl, by rw [HE.out]; exact (HA3.out.after HC2.out).from HBW.out⟩
    · cases hno
end Go.Proofs.YtlpkcpacfldfaaaGreat
namespace Go.Proofs.YtlpkcpacfldfaaaGreat
open Go.RowKit N
theorem cells_ne_map {w : World} {g m : Nat} {cs : Array Value} {t : TypeId} {es : Array MapEntry} {c : Nat} (h : Has w g (.cells cs t)) (k : Has w m (.map es c)) : g ≠ m := fun e => by
  unfold Has at h k
  rw [e, k] at h
  injection h with h
  cases h
/-- what is known of r is put down -/
theorem AS.known {w0 w w' : World} {q : TQ} {g m : Nat} {l : List Int} {r : Int} {outv : Value} {D : DataW Unit} (h1 : Has w g (.cells (AC q outv (.map (some m))) 69)) (h2 : Own w w0.heap.size outv (l ++ apt q.T.pairs r)) (h3 : w.ownsMap Tryz.prog 21 plElem m 4294967296 D) (h4 : Known q.T.pairs D (l ++ apt q.T.pairs r)) (h5 : Below w0.heap.size w0 w) (h6 : w0.heap.size ≤ g) (h7 : w0.heap.size ≤ m) (h8 : (l ++ apt q.T.pairs r).length ≤ 4096)
    (ho : w'.ownsMap Tryz.prog 21 plElem m (4294967296 + 1) (D.put (.int .i32 r) (.agg [.lit (.int .i64 (l.length : Nat)), .lit (.int .i64 ((l ++ apt q.T.pairs r).length : Nat))]))) (hg : w.grownBy w' (some m)) : AS w0 q g m w' (l ++ apt q.T.pairs r) ∧ CellsKept w w' := by
  obtain ⟨es, clock, hm, F, hs, hD⟩ := id h3
  have hM : Has w m (.map es clock) := hm
  refine ⟨⟨outv, _, h1.grown hg (fun e => cells_ne_map h1 hM (by injection e)), ?_, own_cap ho, known_put h3.isMap r h4, ?_, h6, h7, h8⟩, fun b cs t hb _ _ => hb.grown hg (fun e => cells_ne_map hb hM (by injection e))⟩
  · exact h2.kept hg (own_nemap h2 hM)
  · exact h5.grown hg h5.size (fun k hk => by cases hk; exact h7)
set_option maxRecDepth 20000 in
set_option maxHeartbeats 1000000 in
theorem take_new (g m : Nat) (q : TQ) (l : List Int) (r : Int) (hr : (Lit.int .i32 r).wf = true) (w0 w : World) (outv : Value) (D : DataW Unit) (h1 : Has w g (.cells (AC q outv (.map (some m))) 69)) (h2 : Own w w0.heap.size outv l) (h3 : w.ownsMap Tryz.prog 21 plElem m 4294967296 D) (h4 : Known q.T.pairs D l) (h5 : Below w0.heap.size w0 w) (h6 : w0.heap.size ≤ g) (h7 : w0.heap.size ≤ m) (h8 : l.length ≤ 4096) (hk : Maps.has D (.int .i32 r) = false) (ih : Does 97 w0 q g m r) :
    Calls Tryz.prog 46 #[.pointer (some ⟨g, 0, none⟩), .int .i32 r] w fun e w' => ∃ b, e = .returned (.bool b) ∧ AA2 w0 q g m l (apt q.T.pairs r) b w w' := by
  obtain ⟨p, cap, rfl, hcells⟩ := id h2.form
  have HAS : Hid (AS w0 q g m w l) := Lib.hid ⟨_, D, h1, h2, h3, h4, h5, h6, h7, h8⟩
  have HM := Lib.hid h3
  have IH := Lib.hid ih
  have HR := Lib.hid hr
  have HB : Hid (w0.heap.size ≤ m) := Lib.hid h7
  have c5 : w.cell? ⟨g, 5, none⟩ = some (.slice p l.length cap) := h1.cell 5 rfl
  have c6 : w.cell? ⟨g, 6, none⟩ = some (.map (some m)) := h1.cell 6 rfl
  have hgl := h1.lt
  clear h1 h2 h3 h4 h5 h6 h7 hcells ih
  go_enter Tryz.func46, Tryz.ntmps46
  go_wp2_with (first | (at_lookup; refine wpList_lookup_pl _ rfl _ _ rfl m 4294967296 D rfl HM.out r rfl HR.out false hk ?_; intro f t hat; clear hat) | fail)
  have hbw := bnew w (.cells #[.int .i64 f, .int .i64 t] 141)
  have HA1 := Lib.hid (HAS.out.to hbw)
  have HBW : Hid (Behind w (w.alloc (.cells #[.int .i64 f, .int .i64 t] 141))) := Lib.hid hbw
  clear hbw HM c6 HAS hk
  refine (IH.out _ l HA1.out).mono ?_
  rintro e w1 ⟨b, rfl, hA⟩
  have HA2 := Lib.hid hA
  clear hA c5
  cases b with
  | false =>
    go_wp2
    go_ret
    exact ⟨false, rfl, HA2.out.from HBW.out⟩
  | true =>
    have hA := HA2.out
    rcases hA with ⟨_, hS, hC⟩ | ⟨hno, _⟩
    · obtain ⟨outv2, D2, k1, k2, k3, k4, k5, k6, k7, k8⟩ := hS
      obtain ⟨p2, cap2, rfl, hc2⟩ := id k2.form
      have n5 : w1.cell? ⟨g, 5, none⟩ = some (.slice p2 (l ++ apt q.T.pairs r).length cap2) := k1.cell 5 rfl
      have n6 : w1.cell? ⟨g, 6, none⟩ = some (.map (some m)) := k1.cell 6 rfl
      obtain ⟨n, hn⟩ : ∃ n, (l ++ apt q.T.pairs r).length = n := ⟨_, rfl⟩
      have hn4 : n ≤ 4096 := by omega
      rw [hn] at n5
      have HN := Lib.hid hn
      have HK3 := Lib.hid k3.drew
      have HC := Lib.hid hC
      have HSt : Hid (∀ w', w'.ownsMap Tryz.prog 21 plElem m (4294967296 + 1) (D2.put (.int .i32 r) (.agg [.lit (.int .i64 (l.length : Nat)), .lit (.int .i64 (n : Nat))])) → w1.drew.grownBy w' (some m) → AS w0 q g m w' (l ++ apt q.T.pairs r) ∧ CellsKept w1 w') := Lib.hid (fun w' ho hg => by
        have hd := (Below.refl w1.heap.size w1).drew
        have hst := AS.known (w := w1.drew) (k1.to hd) (k2.to hd) k3.drew k4 (k5.trans (hd.mono k5.size)) k6 k7 k8 (by rw [hn]; exact ho) hg
        exact ⟨hst.1, (CellsKept.below hd).trans hst.2⟩)
      clear k1 k2 k3 k4 k5 k6 k7 k8 hc2 hC hn
      go_wp2_with fail
      refine wp_region_still_tail 12 (by kernel_rfl) (by kernel_rfl) ?_
      simp only [List.take_succ_cons, List.take_zero, List.drop_succ_cons, List.drop_zero]
      repeat still_step
      refine wpStill_nil ?_
      change wpList _ _ _ _ _ w1.drew
      go_wp2_with (first | (at_mapUpdate; refine wpList_mapUpdate_own _ rfl _ _ _ 67 rfl 21 141 law21 Tryz.underlying67 plElem m 4294967296 D2 rfl HK3.out (by unfold maxLen; omega) (.int .i32 r) (.agg #[.int .i64 (l.length : Nat), .int .i64 (n : Nat)]) (.int .i32 r) rfl rfl (key32 HR.out) (.agg [.lit (.int .i64 (l.length : Nat)), .lit (.int .i64 (n : Nat))]) [] (plElem_mk _ _) ?_; intro w2 ho hg; have HFin := Lib.hid (HSt.out w2 ho hg); clear ho hg) | fail)
      go_ret
      exact ⟨true, rfl, .inl ⟨rfl, HFin.out.1, (CellsKept.below HBW.out).trans (HC.out.trans HFin.out.2)⟩⟩
    · cases hno
/-- taking apart comes to an end, and does what it is to do -/
theorem take_is (g m : Nat) (q : TQ) (w0 : World) (hT0 : TabAt w0 q) (hf : Fit q.T) (hF : Falls q.T.pairs) (hP : PairWf q.T) : ∀ (n : Nat) (r : Int), r.toNat < n → (Lit.int .i32 r).wf = true → Does 46 w0 q g m r := by
  intro n
  induction n with
  | zero => intro r h; omega
  | succ n ih =>
    intro r h hr w l hA
    have hp97 : Does 97 w0 q g m r := by
      cases hs : syl r with
      | true => exact parts_syl g m q r w0 hF hs
      | false =>
        cases hp : prL q.T.pairs r with
        | none => exact parts_none g m q r w0 hT0 hf hF hs hp
        | some y =>
          obtain ⟨hm, hyr⟩ := prL_some hp
          obtain ⟨a0, a1, b0, b1⟩ := hF y hm
          obtain ⟨_, wa, wb⟩ := hP y hm
          by_cases hb : y.b = 0
          · exact parts_one g m q r y w0 hT0 hf hF hs hp hb (ih y.a (by omega) wa)
          · exact parts_two g m q r y w0 hT0 hf hF hs hp hb (ih y.a (by omega) wa) (ih y.b (by omega) wb)
    obtain ⟨outv, D, h1, h2, h3, h4, h5, h6, h7, h8⟩ := hA
    cases hk : Maps.has D (.int .i32 r) with
    | true => exact take_known g m q l r hr w0 w outv D h1 h2 h3 h4 h5 h6 h7 h8 hk
    | false => exact take_new g m q l r hr w0 w outv D h1 h2 h3 h4 h5 h6 h7 h8 hk hp97
end Go.Proofs.YtlpkcpacfldfaaaGreat
