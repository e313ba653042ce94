import Derived.Test.YtbclodbneonipaaGreatRU0M
import Derived.Maps.RangeWalk
import Derived.Maps.OwnOps
import Derived.WideKeyPair
import Derived.WideKeyEntry
import Derived.DeepKeys4
import Derived.Deep.RegionHeld3
namespace Go.Proofs.YtbclodbneonipaaGreat
open Go.RowKit N
open Go.Maps (Keyed)
open Go.WideMaps (KeyLaw)
open Go.ChangeMaps (setBlock heap_setBlock_same heap_setBlock_other)
theorem arr250 : Go.WideMaps.ArrKey Tryz.prog 139 21 2 := ⟨Tryz.underlying139, by kernel_rfl, by kernel_rfl, by kernel_rfl⟩
theorem klaw250 : KeyLaw Tryz.prog 139 := arr250.law
theorem law250 : Keyed Tryz.prog 139 := Keyed.of_law klaw250
theorem sizeT : ∃ m, Tryz.prog.types.size = m + 1 := ⟨Tryz.prog.types.size - 1, by have : 0 < Tryz.prog.types.size := of_decide_eq_true (by kernel_rfl); omega⟩
/-- what a pair reads as, as a key -/
def kl2 (x : Int × Int) : Lit := .string (keyBytes [.int .i32 x.1, .int .i32 x.2])
def Wf2 (x : Int × Int) : Prop := (Lit.int .i32 x.1).wf = true ∧ (Lit.int .i32 x.2).wf = true
theorem key2 {x : Int × Int} (h : Wf2 x) : keyOf Tryz.prog 139 (.agg #[.int .i32 x.1, .int .i32 x.2]) = some (kl2 x) := Go.WideMaps.keyOf_pair arr250 Tryz.underlying21 sizeT h.1 h.2
theorem kl2_inj {x y : Int × Int} (hx : Wf2 x) (hy : Wf2 y) (h : kl2 x = kl2 y) : x = y := by
  have h1 := key2 hx
  rw [h] at h1
  have := law250.inj h1 (key2 hy)
  simp only [Value.agg.injEq, Array.mk.injEq, List.cons.injEq, Value.int.injEq, true_and, and_true] at this
  exact Prod.ext this.1 this.2
theorem kl2_key {x : Int × Int} (hx : Wf2 x) : WideAt.IsKeyLit (kl2 x) := law250.key (key2 hx)
/-- 'm[k] op= v' in two steps -/
theorem entry_laws {w : World} {t k e : TypeId} {R : Value → Option (DataW Unit × List MemPlace)} {b n : Nat} {D : DataW Unit} (K : KeyLaw Tryz.prog k) (ht : Tryz.prog.underlying t = some (.map k e)) {z : Value} (hz : ∀ u : World, (zeroValue e).run Tryz.prog u = .ok z u) (hown : w.ownsMap Tryz.prog k R b n D) (hn : n < maxLen)
    {zd : DataW Unit} {zp : List MemPlace} (hzd : R z = some (zd, zp)) {key : Value} {kl : Lit} (hkey : keyOf Tryz.prog k key = some kl) :
    ∃ (v0 : Value) (st : Nat) (W1 : World) (D1 : DataW Unit), (Instr.mapEntry t (.map (some b)) key).run Tryz.prog w = .ok (.tuple #[v0, goInt st]) W1 ∧ W1.ownsMap Tryz.prog k R b (n + 1) D1 ∧ w.grownBy W1 (some b) ∧ D1.atKey kl zd = D.atKey kl zd ∧
      ∀ (w2 : World) (val : Value) (d : DataW Unit) (ps : List MemPlace), w2.heap[b]? = W1.heap[b]? → R val = some (d, ps) → ∃ W2, (Instr.entryStore t (.map (some b)) (goInt st) val).run Tryz.prog w2 = .ok () W2 ∧ W2.ownsMap Tryz.prog k R b (n + 1) (D.put kl d) ∧ w2.grownBy W2 (some b) := by
  have hK : Keyed Tryz.prog k := Keyed.of_law K
  obtain ⟨es, clock, hb, F, hs, hD⟩ := id hown
  obtain ⟨v0, st, es1, clock1, hrun, hv0, hstore⟩ := WideElems.entry_then_store K ht hz hb F hkey
  have hblk : ∀ o, w.grownBy (setBlock w b o) (some b) := fun o => ⟨rfl, rfl, rfl, by simp [setBlock], fun i _ hi => heap_setBlock_other hb _ (fun e => hi (by rw [e]))⟩
  have hsto : ∀ (w2 : World) (val : Value) (d : DataW Unit) (ps : List MemPlace), w2.heap[b]? = some (.map es1 clock1) → R val = some (d, ps) → ∃ W2, (Instr.entryStore t (.map (some b)) (goInt st) val).run Tryz.prog w2 = .ok () W2 ∧ W2.ownsMap Tryz.prog k R b (n + 1) (D.put kl d) ∧ w2.grownBy W2 (some b) := by
    intro w2 val d ps h2 hval
    obtain ⟨es', clock', hr1, hr2⟩ := hstore w2 val h2
    obtain ⟨w', hr3, ho, _⟩ := hown.update hK ht hn hkey hval
    rw [hr2] at hr3
    injection hr3 with _ hr3
    obtain ⟨es3, clock3, hb3, F3, hs3, hD3⟩ := ho
    rw [← hr3, heap_setBlock_same hb] at hb3
    injection hb3 with hb3
    injection hb3 with e1 e2
    subst e1 e2
    exact ⟨_, hr1, ⟨_, _, heap_setBlock_same h2 _, F3, hs3, hD3⟩, ⟨rfl, rfl, rfl, by simp [setBlock], fun i _ hi => heap_setBlock_other h2 _ (fun e => hi (by rw [e]))⟩⟩
  have hW1 : (setBlock w b (.map es1 clock1)).heap[b]? = some (.map es1 clock1) := heap_setBlock_same hb _
  have hsame1 : ∀ (es2 : Array MapEntry) (clock2 : Nat) (v : Value), (Instr.mapEntry t (.map (some b)) key).run Tryz.prog w = .ok v (setBlock w b (.map es2 clock2)) → es1 = es2 ∧ clock1 = clock2 := by
    intro es2 clock2 v hr
    rw [hrun] at hr
    injection hr with _ hr
    have h2 : (setBlock w b (.map es2 clock2)).heap[b]? = some (.map es2 clock2) := heap_setBlock_same hb _
    rw [← hr, hW1] at h2
    injection h2 with h2
    injection h2 with e1 e2
    exact ⟨e1, e2⟩
  rcases K.find w hkey es.toList F.keys with ⟨h1, h2⟩ | ⟨j, e0, h1, h2, h3⟩
  · have hr2 : (Instr.mapEntry t (.map (some b)) key).run Tryz.prog w = .ok (.tuple #[z, goInt clock]) (setBlock w b (.map (es.push ⟨key, z, clock⟩) (clock + 1))) := by
      simp [Instr.mapEntry, run_underlying ht, MapKept.run_getObj_map hb, K.check w false hkey, h1, hz, MapKept.run_setObj_map _ hb, Result.andThen, setBlock]
    have hr3 : (Instr.mapUpdate t (.map (some b)) key z).run Tryz.prog w = .ok () (setBlock w b (.map (es.push ⟨key, z, clock⟩) (clock + 1))) := by
      simp [Instr.mapUpdate, run_underlying ht, MapKept.run_getObj_map hb, K.check w false hkey, h1, MapKept.run_setObj_map _ hb, Result.andThen, setBlock]
    obtain ⟨e1, e2⟩ := hsame1 _ _ _ hr2
    obtain ⟨w', hr4, ho, _⟩ := hown.update hK ht hn hkey hzd
    rw [hr3] at hr4
    injection hr4 with _ hr4
    refine ⟨v0, st, _, D.put kl zd, hrun, by rw [e1, e2, hr4]; exact ho, hblk _, ?_, fun w2 val d ps hw2 hval => hsto w2 val d ps (hw2.trans hW1) hval⟩
    rw [Maps.atKey_put_same hown.isMap (hK.key hkey)]
    rcases Maps.fit_look false hK ht (hz w) hb F hkey with ⟨hl1, hl2, hat⟩ | ⟨x, y, hx1, hx2, _⟩
    · rw [hD]; exact (hat zd).symm
    · exact absurd hx2 (h2 x hx1)
  · have hr2 : (Instr.mapEntry t (.map (some b)) key).run Tryz.prog w = .ok (.tuple #[e0.val, goInt e0.born]) (setBlock w b (.map es clock)) := by
      have hj : es[j]? = some e0 := by simpa using h2
      have hsm : es.modify j (fun e => { e with key := key }) = es := by
        apply Array.ext'
        rw [Array.toList_modify, Go.ChangeMaps.modify_eq_set _ _ _ _ h2]
        have : ({ e0 with key := key } : MapEntry) = e0 := by rw [← h3]
        rw [this]
        exact WideElems.set_self _ _ _ h2
      simp [Instr.mapEntry, run_underlying ht, MapKept.run_getObj_map hb, K.check w false hkey, h1, hj, h3, K.stays w hkey, hsm, MapKept.run_setObj_map _ hb, Result.andThen, setBlock]
    obtain ⟨e1, e2⟩ := hsame1 _ _ _ hr2
    refine ⟨v0, st, _, D, hrun, ⟨es1, clock1, hW1, by rw [e1, e2]; exact F, by rw [e1]; omega, by rw [e1]; exact hD⟩, hblk _, rfl, fun w2 val d ps hw2 hval => hsto w2 val d ps (hw2.trans hW1) hval⟩
end Go.Proofs.YtbclodbneonipaaGreat
namespace Go.Proofs.YtbclodbneonipaaGreat
open Go.RowKit N
open Go.Maps (Keyed)
/-- the parts of the pairs that are put together again -/
def distP (l : List Pa) : List (Int × Int) := (l.filter (fun x => !x.one)).map (fun x => (x.a, x.b))
def distB (l : List Pa) : Bool := decide (distP l).Nodup
theorem distP_one {l : List Pa} {k : Nat} (h : k < l.length) (ho : l[k].one = true) : distP (l.take (k + 1)) = distP (l.take k) := by
  unfold distP
  rw [take_snoc l k h, List.filter_append]
  simp [ho]
theorem distP_two {l : List Pa} {k : Nat} (h : k < l.length) (ho : l[k].one = false) : distP (l.take (k + 1)) = distP (l.take k) ++ [(l[k].a, l[k].b)] := by
  unfold distP
  rw [take_snoc l k h, List.filter_append]
  simp [ho]
theorem distP_len (l : List Pa) : (distP l).length ≤ l.length := by
  unfold distP
  rw [List.length_map]
  exact List.length_filter_le _ _
abbrev z64 : DataW Unit := .lit (.int .i64 0)
/-- D counts the pairs of l -/
structure Cnt (D : DataW Unit) (l : List (Int × Int)) : Prop where
  m : Maps.IsMap D
  at' : ∀ x, Wf2 x → D.atKey (kl2 x) z64 = .lit (.int .i64 (l.count x : Nat))
  has : ∀ z, Maps.has D z = true → ∃ x, x ∈ l ∧ Wf2 x ∧ z = kl2 x
  all : ∀ x ∈ l, Maps.has D (kl2 x) = true
theorem cnt_none : Cnt (.map []) [] := ⟨⟨_, rfl⟩, fun x _ => rfl, fun z h => by simp [Maps.has] at h, fun x h => by cases h⟩
theorem cnt_put {D : DataW Unit} {l : List (Int × Int)} (h : Cnt D l) {x : Int × Int} (hx : Wf2 x) : Cnt (D.put (kl2 x) (.lit (.int .i64 ((l.count x : Nat) + 1 : Int)))) (l ++ [x]) := by
  refine ⟨h.m.put _ _, fun y hy => ?_, fun z hz => ?_, fun y hy => ?_⟩
  · by_cases e : y = x
    · subst e
      rw [Maps.atKey_put_same h.m (kl2_key hx), List.count_append]
      simp
    · have hne : kl2 y ≠ kl2 x := fun he => e (kl2_inj hy hx he)
      rw [Maps.atKey_put_other hne, h.at' y hy, List.count_append]
      have : [x].count y = 0 := by rw [List.count_eq_zero]; simpa using e
      rw [this]; rfl
  · by_cases e : z = kl2 x
    · exact ⟨x, by simp, hx, e⟩
    · rw [Maps.has_put_other e] at hz
      obtain ⟨y, hy, hw, rfl⟩ := h.has z hz
      exact ⟨y, by simp [hy], hw, rfl⟩
  · by_cases e : kl2 y = kl2 x
    · rw [e]; exact Maps.has_put_same h.m (kl2_key hx) _
    · rw [Maps.has_put_other e]
      rcases List.mem_append.1 hy with hy | hy
      · exact h.all y hy
      · simp at hy; subst hy; exact absurd rfl e
theorem zero3 (w : World) : (zeroValue 3).run Tryz.prog w = .ok (.int .i64 0) w := by kernel_rfl
theorem step_look {w : World} {ops : Array Oper} {o : Oper} {a : Act} {K : Act → World → Prop} {Q : Exit → Act → World → Prop} {E : Prop} (hgd : o.guard = none) (m x : Operand) (hop : o.op = Op.lookup 138 m x false)
    (b n : Nat) (D : DataW Unit) (hm : a.eval m = .map (some b)) (hown : w.ownsMap Tryz.prog 139 (plainElem Tryz.prog 3) b n D) (p : Int × Int) (hx : a.eval x = .agg #[.int .i32 p.1, .int .i32 p.2]) (hp : Wf2 p) (c : Int) (hc : D.atKey (kl2 p) z64 = .lit (.int .i64 c))
    (h : K (a.put o.dst (.int .i64 c)) w) : if Region.wanted o (yielded ops a.tmps) = true then Oper.wp Tryz.prog o a w K Q else E := by
  have hw : Region.wanted o (yielded ops a.tmps) = true := by simp [Region.wanted, hgd]
  rw [if_pos hw]
  obtain ⟨c', hrun, hat, _⟩ := hown.lookup_int law250 Tryz.underlying138 Tryz.underlying3 (zero3 w) (key2 hp)
  rw [hc] at hat
  simp only [DataW.lit.injEq, Lit.int.injEq, true_and] at hat
  subst hat
  unfold Oper.wp
  simp [execOp, hop, hm, hx, hrun, Result.andThen]
  exact h
/-- the store that ends 'm[k] op= v' -/
def Stores (W1 : World) (b n st : Nat) (D : DataW Unit) (p : Int × Int) : Prop := ∀ (w2 : World) (val : Value) (d : DataW Unit) (ps : List MemPlace), w2.heap[b]? = W1.heap[b]? → plainElem (H := Unit) Tryz.prog 3 val = some (d, ps) → ∃ W2, (Instr.entryStore 138 (.map (some b)) (goInt st) val).run Tryz.prog w2 = .ok () W2 ∧ W2.ownsMap Tryz.prog 139 (plainElem Tryz.prog 3) b (n + 1) (D.put (kl2 p) d) ∧ w2.grownBy W2 (some b)
theorem step_entry {w : World} {ops : Array Oper} {o : Oper} {a : Act} {K : Act → World → Prop} {Q : Exit → Act → World → Prop} {E : Prop} (hgd : o.guard = none) (m x : Operand) (hop : o.op = Op.mapEntry 138 m x)
    (b n : Nat) (D : DataW Unit) (hm : a.eval m = .map (some b)) (hown : w.ownsMap Tryz.prog 139 (plainElem Tryz.prog 3) b n D) (hn : n < maxLen) (p : Int × Int) (hx : a.eval x = .agg #[.int .i32 p.1, .int .i32 p.2]) (hp : Wf2 p)
    (h : ∀ (v0 : Value) (st : Nat) (W1 : World) (D1 : DataW Unit), W1.ownsMap Tryz.prog 139 (plainElem Tryz.prog 3) b (n + 1) D1 → w.grownBy W1 (some b) → D1.atKey (kl2 p) z64 = D.atKey (kl2 p) z64 → Stores W1 b n st D p → K (a.put o.dst (.tuple #[v0, .int .i64 (st : Int)])) W1) : if Region.wanted o (yielded ops a.tmps) = true then Oper.wp Tryz.prog o a w K Q else E := by
  have hw : Region.wanted o (yielded ops a.tmps) = true := by simp [Region.wanted, hgd]
  rw [if_pos hw]
  obtain ⟨v0, st, W1, D1, hrun, h1, h2, h3, h4⟩ := entry_laws klaw250 Tryz.underlying138 zero3 hown hn (plainElem_int Tryz.underlying3 (by decide)) (key2 hp)
  unfold Oper.wp
  simp [execOp, hop, hm, hx, hrun, Result.andThen]
  exact h v0 st W1 D1 h1 h2 h3 h4
theorem step_store {w : World} {ops : Array Oper} {o : Oper} {a : Act} {K : Act → World → Prop} {Q : Exit → Act → World → Prop} {E : Prop} (hgd : o.guard = none) (m s x : Operand) (hop : o.op = Op.entryStore 138 m s x)
    (b n st : Nat) (D : DataW Unit) (p : Int × Int) (hm : a.eval m = .map (some b)) (hs : a.eval s = .int .i64 (st : Int)) (c : Int) (hx : a.eval x = .int .i64 c) (hc : (Lit.int .i64 c).wf = true) (hst : Stores w b n st D p)
    (h : ∀ W2, W2.ownsMap Tryz.prog 139 (plainElem Tryz.prog 3) b (n + 1) (D.put (kl2 p) (.lit (.int .i64 c))) → w.grownBy W2 (some b) → K (a.put o.dst undef) W2) : if Region.wanted o (yielded ops a.tmps) = true then Oper.wp Tryz.prog o a w K Q else E := by
  have hw : Region.wanted o (yielded ops a.tmps) = true := by simp [Region.wanted, hgd]
  rw [if_pos hw]
  obtain ⟨W2, hrun, h1, h2⟩ := hst w (.int .i64 c) _ _ rfl (plainElem_int Tryz.underlying3 hc)
  have hrun' : (Instr.entryStore 138 (.map (some b)) (.int .i64 (st : Int)) (.int .i64 c)).run Tryz.prog w = .ok () W2 := hrun
  unfold Oper.wp
  simp [execOp, hop, hm, hs, hx, hrun', Result.andThen]
  exact h W2 h1 h2
end Go.Proofs.YtbclodbneonipaaGreat
namespace Go.Proofs.YtbclodbneonipaaGreat
open Go.RowKit N
theorem nodup_count {l : List (Int × Int)} (h : ∀ x ∈ l, l.count x ≤ 1) : l.Nodup := by
  rw [List.nodup_iff_count]
  intro x
  by_cases hx : x ∈ l
  · exact h x hx
  · rw [List.count_eq_zero.2 hx]; omega
theorem cells_ne_map' {w : World} {g m : Nat} {cs : Array Value} {t : TypeId} {es : Array MapEntry} {c : Nat} (h : Has w g (.cells cs t)) (k : w.heap[m]? = some (.map es c)) : g ≠ m := fun e => by
  unfold Has at h
  rw [e, k] at h
  injection h with h
  cases h
theorem look_at {w : World} {b n : Nat} {D : DataW Unit} (hown : w.ownsMap Tryz.prog 139 (plainElem Tryz.prog 3) b n D) {p : Int × Int} (hp : Wf2 p) {c : Int} (hc : D.atKey (kl2 p) z64 = .lit (.int .i64 c)) : (Instr.lookup 138 (.map (some b)) (.agg #[.int .i32 p.1, .int .i32 p.2]) false).run Tryz.prog w = .ok (.int .i64 c) w := by
  obtain ⟨c', hrun, hat, _⟩ := hown.lookup_int law250 Tryz.underlying138 Tryz.underlying3 (zero3 w) (key2 hp)
  rw [hc] at hat
  simp only [DataW.lit.injEq, Lit.int.injEq, true_and] at hat
  subst hat
  exact hrun
set_option maxRecDepth 20000 in
set_option maxHeartbeats 8000000 in
theorem distinct_is (q : TQ) (b : Bool) (hb : distB q.T.pairs = b) (w : World) (hs : q.T.pairs.length ≤ 1024) (hP : PairWf q.T) (hT : TabAt w q) :
    Calls Tryz.prog 63 #[q.v2] w fun e w' => e = .returned (.bool b) ∧ Below w.heap.size w w' := by
  have hmm := @run_makeMap Tryz.prog
  have HB0 := Lib.hid hb
  have HP := Lib.hid hP
  have C3 : Hid (∀ i x, q.T.pairs[i]? = some x → ∃ g o, q.p2 = some ⟨g, o, none⟩ ∧ g < w.heap.size ∧ ∀ j u, (encPa x)[j]? = some u → w.cell? ⟨g, o + i * 4 + j, none⟩ = some u) := Lib.hid (by
    obtain ⟨p, cap, hpv, _, hc⟩ := hT.p
    simp only [TQ.v2, Value.slice.injEq] at hpv
    obtain ⟨rfl, _, rfl⟩ := hpv
    exact hc)
  have HMw : Hid ((w.alloc (.map #[] 0)).ownsMap Tryz.prog 139 (plainElem Tryz.prog 3) w.heap.size 0 (.map [] : DataW Unit)) := Lib.hid (World.ownsMap_made _ _ _ _)
  have HBw := Lib.hid (bnew w (.map #[] 0))
  clear hb hP hT
  unfold TQ.v2
  go_enter Tryz.func63, Tryz.ntmps63
  go_wp2
  clear hmm
  go_loopw [11] (fun kv wr => ∃ (k : Nat) (D : DataW Unit), kv = .int .i64 k ∧ k ≤ q.T.pairs.length ∧ Hid (wr.ownsMap Tryz.prog 139 (plainElem Tryz.prog 3) w.heap.size k D) ∧ Hid (Cnt D (distP (q.T.pairs.take k))) ∧ Below w.heap.size w wr) (fun k _ => q.T.pairs.length - (intOf k).toNat)
  case atStart => exact ⟨0, _, rfl, Nat.zero_le _, HMw, Lib.hid (by simpa [distP] using cnt_none), HBw.out⟩
  case round =>
    obtain ⟨k, D, rfl, hk, HM, HC, hB⟩ := hrel
    have HB := Lib.hid hB
    have hBs := hB.size
    by_cases hlt : k < q.T.pairs.length
    · obtain ⟨g, of, hp, hg, hx⟩ := C3.out k q.T.pairs[k] (List.getElem?_eq_getElem hlt)
      have c0 := (hB.cell (p := ⟨g, of + k * 4, none⟩) hg).trans (hx 0 _ rfl)
      have c1 := (hB.cell (p := ⟨g, of + k * 4 + 1, none⟩) hg).trans (hx 1 _ rfl)
      have c2 := (hB.cell (p := ⟨g, of + k * 4 + 2, none⟩) hg).trans (hx 2 _ rfl)
      have c3 := (hB.cell (p := ⟨g, of + k * 4 + 3, none⟩) hg).trans (hx 3 _ rfl)
      obtain ⟨ek, hek⟩ : ∃ x, x = q.T.pairs[k] := ⟨_, rfl⟩
      rw [← hek] at c0 c1 c2 c3
      have hmem : ek ∈ q.T.pairs := by rw [hek]; exact List.getElem_mem _
      have hwf : Wf2 (ek.a, ek.b) := (HP.out ek hmem).2
      have HW := Lib.hid hwf
      have HK := Lib.hid hek
      clear hx hB hmem hek hwf
      by_cases ho : ek.one = true
      · have HD : Hid (distP (q.T.pairs.take (k + 1)) = distP (q.T.pairs.take k)) := Lib.hid (distP_one hlt (by rw [← HK.out]; exact ho))
        go_wp2
        go_roundw
        case rel => exact ⟨k + 1, D, by go_num, by omega, Lib.hid ((HM.out.alloc _).mono (Nat.le_succ _)), Lib.hid (by rw [HD.out]; exact HC.out), HB.out.alloc hBs _⟩
        case measure => simp [intOf]; omega
      · have ho' : ek.one = false := by simpa using ho
        obtain ⟨n, hn⟩ : ∃ n, (distP (q.T.pairs.take k)).count (ek.a, ek.b) = n := ⟨_, rfl⟩
        have hnk : n ≤ 1024 := by
          have h1 := List.count_le_length (a := (ek.a, ek.b)) (l := distP (q.T.pairs.take k))
          have h2 := distP_len (q.T.pairs.take k)
          rw [List.length_take] at h2
          omega
        have HCA : Hid (D.atKey (kl2 (ek.a, ek.b)) z64 = .lit (.int .i64 (n : Int))) := Lib.hid (by rw [HC.out.at' _ HW.out, hn])
        have HD : Hid (Cnt (D.put (kl2 (ek.a, ek.b)) (.lit (.int .i64 ((n : Nat) + 1 : Int)))) (distP (q.T.pairs.take (k + 1)))) := Lib.hid (by
          rw [distP_two hlt (by rw [← HK.out]; exact ho'), ← HK.out, ← hn]
          exact cnt_put HC.out HW.out)
        have hwfn : (Lit.int .i64 ((n : Int) + 1)).wf = true := WalkArith.wf_i64 (by omega)
        have HWN := Lib.hid hwfn
        clear ho hn hwfn
        go_wp2_with fail
        have hnb := Has.new wr (.cells #[.int .i32 ek.r, .int .i32 ek.a, .int .i32 ek.b, .bool false] 52)
        have e1 := hnb.cell 1 rfl
        have e2 := hnb.cell 2 rfl
        have HN1 := Lib.hid hnb
        have HM1 := Lib.hid (HM.out.alloc (.cells #[.int .i32 ek.r, .int .i32 ek.a, .int .i32 ek.b, .bool false] 52))
        have HB1 := Lib.hid (HB.out.alloc hBs (.cells #[.int .i32 ek.r, .int .i32 ek.a, .int .i32 ek.b, .bool false] 52))
        obtain ⟨w1, hw1⟩ : ∃ w1, w1 = wr.alloc (.cells #[.int .i32 ek.r, .int .i32 ek.a, .int .i32 ek.b, .bool false] 52) := ⟨_, rfl⟩
        obtain ⟨G, hG⟩ : ∃ G, G = wr.heap.size := ⟨_, rfl⟩
        rw [← hw1] at e1 e2 HN1 HM1 HB1
        rw [← hG] at e1 e2 HN1
        simp only [← hw1, ← hG]
        have hB1s := HB1.out.size
        have hGl : G < w1.heap.size := HN1.out.lt
        have hGm : G ≠ w.heap.size := fun e => by
          obtain ⟨es, c, hb, _⟩ := HM1.out
          exact cells_ne_map' HN1.out hb e
        have HMd : Hid (w1.drew.ownsMap Tryz.prog 139 (plainElem Tryz.prog 3) w.heap.size k D) := Lib.hid HM1.out.drew
        have HNd : Hid (Has w1.drew G (.cells #[.int .i32 ek.r, .int .i32 ek.a, .int .i32 ek.b, .bool false] 52)) := Lib.hid HN1.out
        have HBd := Lib.hid HB1.out.drew
        have hsum : IntKind.i64.wrap ((n : Int) + 1) = (n : Int) + 1 := IntWalk.i64_in _ (by omega)
        have hkm : k < maxLen := by unfold maxLen; omega
        obtain ⟨v0, st, W1, D1, hr1, hm1, hg1, ha1, hs1⟩ := entry_laws klaw250 Tryz.underlying138 zero3 HMd.out hkm (plainElem_int Tryz.underlying3 (by decide)) (key2 HW.out)
        obtain ⟨W2, hr2, hm2, hg2⟩ := hs1 W1 (.int .i64 ((n : Int) + 1)) _ _ rfl (plainElem_int Tryz.underlying3 HWN.out)
        have HA3 : D1.atKey (kl2 (ek.a, ek.b)) z64 = .lit (.int .i64 (n : Int)) := ha1.trans HCA.out
        have hl1 := look_at HMd.out HW.out HCA.out
        have hl2 := look_at hm1 HW.out HA3
        have HN3 := HNd.out.grown hg1 (fun e => hGm (by injection e))
        have HN4 := HN3.grown hg2 (fun e => hGm (by injection e))
        have HB3 : Below w.heap.size w W1 := HBd.out.grown hg1 HBd.out.size (fun kk hkk => by cases hkk; exact Nat.le_refl _)
        have HB4 : Hid (Below w.heap.size w W2) := Lib.hid (HB3.grown hg2 HB3.size (fun kk hkk => by cases hkk; exact Nat.le_refl _))
        have x1 : W1.cell? ⟨G, 1, none⟩ = some (.int .i32 ek.a) := HN3.cell 1 rfl
        have x2 : W1.cell? ⟨G, 2, none⟩ = some (.int .i32 ek.b) := HN3.cell 2 rfl
        have z1 : W2.cell? ⟨G, 1, none⟩ = some (.int .i32 ek.a) := HN4.cell 1 rfl
        have z2 : W2.cell? ⟨G, 2, none⟩ = some (.int .i32 ek.b) := HN4.cell 2 rfl
        have y1 : w1.drew.cell? ⟨G, 1, none⟩ = some (.int .i32 ek.a) := HNd.out.cell 1 rfl
        have y2 : w1.drew.cell? ⟨G, 2, none⟩ = some (.int .i32 ek.b) := HNd.out.cell 2 rfl
        have HM4 := Lib.hid hm2
        have hr1' : (Instr.mapEntry 138 (.map (some w.heap.size)) (.agg #[.int .i32 ek.a, .int .i32 ek.b])).run Tryz.prog w1.drew = .ok (.tuple #[v0, .int .i64 (st : Int)]) W1 := hr1
        have hr2' : (Instr.entryStore 138 (.map (some w.heap.size)) (.int .i64 (st : Int)) (.int .i64 ((n : Int) + 1))).run Tryz.prog W1 = .ok () W2 := hr2
        clear hw1 hG hnb hr1 hr2 hs1 hm1 hm2 hg1 hg2 ha1 HA3 HN3 HN4 HB3
        go_region_held3 (fun w' => w'.cell? ⟨G, 1, none⟩ = some (.int .i32 ek.a) ∧ w'.cell? ⟨G, 2, none⟩ = some (.int .i32 ek.b)) (first | (exact ⟨z1, z2⟩) | (exact ⟨x1, x2⟩) | (exact ⟨y1, y2⟩) | go_keep) (fail)
        all_goals
          clear hsum hkm hl1 hl2 hr1' hr2' x1 x2 y1 y2 z1 z2
          go_wp2
          go_roundw
          case rel =>
            rw [hp]
            repeat apply Exists.intro
            refine And.symm ⟨rfl, ?_⟩
            exact ⟨k + 1, _, by go_num, by omega, HM4, HD, HB4.out⟩
          case measure => simp [intOf]; omega
    · obtain rfl : k = q.T.pairs.length := by omega
      have HCn : Hid (Cnt D (distP q.T.pairs)) := Lib.hid (by have := HC.out; rw [List.take_length] at this; exact this)
      have HWf : Hid (∀ x ∈ distP q.T.pairs, Wf2 x) := Lib.hid (fun x hx => by
        obtain ⟨y, hy, rfl⟩ := List.mem_map.1 hx
        exact (HP.out y (List.mem_filter.1 hy).1).2)
      obtain ⟨P, hPd⟩ : ∃ P, P = distP q.T.pairs := ⟨_, rfl⟩
      have HBn : Hid (decide P.Nodup = b) := Lib.hid (by rw [hPd]; exact HB0.out)
      rw [← hPd] at HCn HWf
      clear hB HC hPd
      go_wp2_with (first | (at_range; refine wpList_range_own _ rfl _ 138 rfl 139 3 law250 Tryz.underlying138 _ w.heap.size q.T.pairs.length D rfl HM.out ?_; intro w0 hrg0 hg0 hs0) | fail)
      have HR0 := Lib.hid hrg0
      have HBr : Hid (Below w.heap.size w w0) := Lib.hid (HB.out.grown hg0 hBs (fun kk hkk => by cases hkk))
      obtain ⟨r, hr⟩ : ∃ r, r = wr.heap.size := ⟨_, rfl⟩
      rw [← hr] at HR0
      simp only [← hr]
      have hrm : w.heap.size ≤ r := by omega
      clear hrg0 hg0 hs0 hr HB hBs HM
      go_frame
      obtain ⟨wo, rfl⟩ : ∃ wo : World, wo = wr := ⟨_, rfl⟩
      go_loopw [7] (fun _ wr => ∃ (left : Lit → Bool) (cnt : Nat), Hid (wr.ranges Tryz.prog 139 (plainElem Tryz.prog 3) w.heap.size r q.T.pairs.length D left cnt) ∧ Hid (∀ x ∈ P, left (kl2 x) = false → P.count x ≤ 1) ∧ Below w.heap.size w wr) (fun _ wr => wr.rangeLeft w.heap.size r)
      case atStart => exact ⟨_, _, HR0, Lib.hid (fun x hx hl => by rw [HCn.out.all x hx] at hl; cases hl), HBr.out⟩
      case round =>
        obtain ⟨left, cnt, HR, HL, hB⟩ := hrel
        have HB := Lib.hid hB
        clear HR0 HBr hB
        go_wp2_with (first | (at_next; refine wpList_next_ranges _ rfl _ rfl 139 law250 (plainElem Tryz.prog 3) (fun v : Value => v) (Value.int .i64) (fun key kl _ => ⟨key, rfl⟩) (fun v y hv => by obtain ⟨c, rfl, _⟩ := plainElem_int_inv Tryz.underlying3 hv; exact ⟨c, rfl⟩) w.heap.size r q.T.pairs.length D left cnt rfl HR.out ?_ ?_) | fail)
        · intro _ hl0
          have HE : Hid (b = true) := Lib.hid (by
            rw [← HBn.out]
            exact decide_eq_true (nodup_count fun x hx => HL.out x hx (hl0 _)))
          go_wp2
          go_ret
          exact ⟨by rw [HE.out]; rfl, HB.out⟩
        · intro x c kl y yp w1 cnt1 hkey hlk hv hat hrg1 hlt hg1 hs1 hen
          obtain ⟨p, hpm, hpw, hpk⟩ := HCn.out.has kl (Maps.has_true_of_atKey hat)
          have hc : c = (P.count p : Nat) := by
            obtain ⟨c', hc', hy', _⟩ := plainElem_int_inv Tryz.underlying3 hv
            have h1 := hat z64
            rw [hpk, HCn.out.at' p hpw] at h1
            have hy2 := congrArg Prod.fst hy'
            simp only at hy2
            rw [hy2] at h1
            simp only [DataW.lit.injEq, Lit.int.injEq, true_and] at h1
            injection hc' with _ hc'
            omega
          have HG := Lib.hid (And.intro hpm (And.intro hpw (And.intro hpk hc)))
          have HRg := Lib.hid (And.intro hrg1 hlt)
          have HB1 : Hid (Below w.heap.size w w1) := Lib.hid (HB.out.grown hg1 HB.out.size (fun kk hkk => by cases hkk; exact hrm))
          clear hpm hpw hpk hc hkey hlk hv hat hrg1 hlt hg1 hs1
          by_cases hc1 : 1 < c
          · have HE : Hid (b = false) := Lib.hid (by
              obtain ⟨h1, h2, h3, h4⟩ := HG.out
              rw [← HBn.out]
              refine decide_eq_false fun hnd => ?_
              have := (List.nodup_iff_count.1 hnd) p
              omega)
            go_wp2
            go_ret
            exact ⟨by rw [HE.out]; rfl, HB1.out⟩
          · have HNx : Hid (∀ x ∈ P, (left (kl2 x) && !(kl2 x).sameKey kl) = false → P.count x ≤ 1) := Lib.hid (fun x hx hf => by
              obtain ⟨h1, h2, h3, h4⟩ := HG.out
              cases hl : left (kl2 x) with
              | false => exact HL.out x hx hl
              | true =>
                rw [hl] at hf
                have hsk : (kl2 x).sameKey kl = true := by simpa using hf
                have he := WideAt.sameKey_eq hsk
                rw [h3] at he
                have := kl2_inj (HWf.out x hx) h2 he
                subst this
                omega)
            go_wp2
            go_roundw
            case rel => exact ⟨_, cnt1, Lib.hid HRg.out.1, HNx, HB1.out⟩
            case measure => rw [HRg.out.1.left_eq, HR.out.left_eq]; exact HRg.out.2
end Go.Proofs.YtbclodbneonipaaGreat
