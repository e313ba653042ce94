import Derived.Test.YtnjnhgeafbofkaaDoorG0M
import Derived.Lib.SliceRun
import Derived.Test.YtnjnhgeafbofkaaDoorUtfFM
import Derived.Test.YtnjnhgeafbofkaaDoorUtfIM
import Derived.Test.YtnjnhgeafbofkaaDoorUtfQM
/-
  Rows of pairs, cell by cell; the contracts of slices.Clone and slices.DeleteFunc (with the predicate of a name) at pairs.
-/
namespace Go.Proofs.YtnjnhgeafbofkaaDoor
open Go.RowKit
theorem encFs_set : ∀ (D : List Fd) (rest : List Value) (i : Nat) (x : Fd), i < D.length → ((encFs D ++ rest).set (i * 2) (.string x.1)).set (i * 2 + 1) (.string x.2) = encFs (D.set i x) ++ rest
  | [], _, i, _, h => by simp at h
  | y :: D, rest, 0, x, _ => rfl
  | y :: D, rest, i + 1, x, h => by
    have ih := encFs_set D rest i x (by simpa using h)
    have e : encFs (y :: D) ++ rest = .string y.1 :: .string y.2 :: (encFs D ++ rest) := rfl
    have e2 : encFs ((y :: D).set (i + 1) x) ++ rest = .string y.1 :: .string y.2 :: (encFs (D.set i x) ++ rest) := rfl
    rw [e, e2, show (i + 1) * 2 = i * 2 + 1 + 1 by omega, List.set_cons_succ, List.set_cons_succ, List.set_cons_succ, List.set_cons_succ, ih]
def RowF (w : World) (g : Nat) (rest : List Value) (D : List Fd) : Prop := Has w g (.cells (encFs D ++ rest).toArray 38)
section
variable {w w' : World} {g : Nat} {rest : List Value} {D : List Fd}
theorem RowF.c0 (h : RowF w g rest D) {i : Nat} {x : Fd} (hx : D[i]? = some x) : w.cell? ⟨g, i * 2, none⟩ = some (.string x.1) := Has.cell h _ (by rw [List.getElem?_toArray]; exact (encFs_at D rest i x hx).1)
theorem RowF.c1 (h : RowF w g rest D) {i : Nat} {x : Fd} (hx : D[i]? = some x) : w.cell? ⟨g, i * 2 + 1, none⟩ = some (.string x.2) := Has.cell h _ (by rw [List.getElem?_toArray]; exact (encFs_at D rest i x hx).2)
theorem RowF.f (h : RowF w g rest D) (i : Nat) : w.frozen? ⟨g, i, none⟩ = false := Has.free h i
theorem RowF.store (h : RowF w g rest D) {i : Nat} (hi : i < D.length) (x : Fd) : RowF ((w.setCell ⟨g, i * 2, none⟩ (.string x.1)).setCell ⟨g, i * 2 + 1, none⟩ (.string x.2)) g rest (D.set i x) := by
  have := (Has.set h (i * 2) (.string x.1)).set (i * 2 + 1) (.string x.2)
  unfold RowF
  rw [← encFs_set D rest i x hi]
  simpa using this
theorem RowF.to (h : RowF w g rest D) (hb : Below w.heap.size w w') : RowF w' g rest D := Has.to h hb
theorem RowF.lt (h : RowF w g rest D) : g < w.heap.size := Has.lt h
end
theorem bel_set2 {B g : Nat} {w w' : World} (h : Below B w w') (hg : B ≤ g) (i0 i1 : Nat) (v0 v1 : Value) : Below B w ((w'.setCell ⟨g, i0, none⟩ v0).setCell ⟨g, i1, none⟩ v1) :=
  (h.setCell (p := ⟨g, i0, none⟩) hg _).setCell (p := ⟨g, i1, none⟩) hg _
theorem encFs_take (D : List Fd) (rest : List Value) (k : Nat) (hk : k ≤ D.length) : (encFs D ++ rest).take (k * 2) = encFs (D.take k) := by
  have e : encFs D = encFs (D.take k) ++ encFs (D.drop k) := by rw [← encFs_app, List.take_append_drop]
  rw [e, List.append_assoc]
  have hl : (encFs (D.take k)).length = k * 2 := by rw [Ks.encFs_len, List.length_take_of_le hk]
  rw [← hl]; exact List.take_left
/-- a row of the call's own, cell by cell -/
theorem OwnF.row {w : World} {B : Nat} {q : Option Addr} {n cap : Nat} {l : List Fd} (h : OwnF w B (.slice q n cap) l) (h0 : 0 < l.length) : ∃ g rest, q = some ⟨g, 0, none⟩ ∧ n = l.length ∧ B ≤ g ∧ RowF w g rest l ∧ l.length ≤ cap ∧ cap ≤ maxLen ∧ (encFs l ++ rest).length = cap * 2 := by
  rcases h.2 with ⟨_, hn⟩ | ⟨g, cap', cur, e, hB, hg, hc, hm, hs, ht⟩
  · omega
  · simp only [Value.slice.injEq] at e
    obtain ⟨rfl, rfl, rfl⟩ := e
    have e2 : encFs l ++ cur.toList.drop (l.length * 2) = cur.toList := by rw [← ht, List.take_append_drop]
    refine ⟨g, cur.toList.drop (l.length * 2), rfl, rfl, hB, ?_, hc, hm, ?_⟩
    · unfold RowF; rw [e2]; exact hg
    · rw [e2, Array.length_toList, hs]
theorem RowF.own {w : World} {g : Nat} {rest : List Value} {D : List Fd} (h : RowF w g rest D) {B k cap : Nat} (hB : B ≤ g) (hk : k ≤ D.length) (hD : D.length ≤ cap) (hm : cap ≤ maxLen) (hs : (encFs D ++ rest).length = cap * 2) : OwnF w B (.slice (some ⟨g, 0, none⟩) k cap) (D.take k) := by
  have hl : (D.take k).length = k := List.length_take_of_le hk
  refine ⟨Ks.encFs_len _, .inr ⟨g, cap, _, by rw [hl], hB, h, by rw [hl]; omega, hm, by simpa using hs, ?_⟩⟩
  rw [hl]
  exact encFs_take D rest k hk
theorem lst_news {w : World} {ad : Addr} {n cap : Nat} {l : List Fd} (h : Lst w (.slice (some ad) n cap) l) : ∀ j u, (encFs l)[j]? = some u → w.cell? (ad.add j) = some u := by
  obtain ⟨p, cap', e, hc⟩ := h
  simp only [Value.slice.injEq] at e
  obtain ⟨rfl, rfl, rfl⟩ := e
  intro j u hj
  have hjl : j < l.length * 2 := by rw [← Ks.encFs_len l]; exact (List.getElem?_eq_some_iff.1 hj).1
  obtain ⟨i, hi⟩ : ∃ i, j = i * 2 ∨ j = i * 2 + 1 := ⟨j / 2, by omega⟩
  have hil : i < l.length := by omega
  obtain ⟨g, o, hp, hg, h0, h1⟩ := hc i l[i] (getF hil)
  simp only [Option.some.injEq] at hp
  subst hp
  have hat := encFs_at l [] i l[i] (getF hil)
  rw [List.append_nil] at hat
  rw [Addr.add_lit]
  rcases hi with rfl | rfl
  · rw [hat.1] at hj; cases hj; exact h0
  · rw [hat.2] at hj; cases hj; exact h1
set_option maxRecDepth 100000 in
set_option maxHeartbeats 1000000 in
theorem sclone_is (q : Option Addr) (l : List Fd) (cap : Nat) (hn : q = none → cap = 0) (hm : l.length * 32 ≤ 140737488355328) (w : World) (hv : Lst w (.slice q l.length cap) l) :
    Calls Tryd.prog 58 #[.slice q l.length cap] w fun e w' => (∃ q' cap', e = .returned (.slice q' l.length cap') ∧ OwnF w' w.heap.size (.slice q' l.length cap') l) ∧ Below w.heap.size w w' := by
  cases q with
  | none =>
    have hl : l = [] := by
      cases l with
      | nil => rfl
      | cons x l => obtain ⟨p, c, e, hc⟩ := hv; obtain ⟨g, o, hp, _⟩ := hc 0 x rfl; simp only [Value.slice.injEq] at e; rw [← e.1] at hp; cases hp
    subst hl
    have hc := hn rfl
    subst hc
    clear hv hn
    have hnil := fun W : World => Lib.run_eql_slice_nil (P := Tryd.prog) W 22 38 none 0 0 0 0 Tryd.underlying22
    go_enter Tryd.func58, Tryd.ntmps58
    go_wp2
    go_ret
    exact ⟨⟨_, _, rfl, World.ownsRow_nil _ _ _ _⟩, Below.refl _ _⟩
  | some ad =>
    have HB0 := Lib.hid (bnew w (.cells #[] 38))
    have HE := Lib.hid (show OwnF (w.alloc (.cells #[] 38)) w.heap.size (.slice (some ⟨w.heap.size, 0, none⟩) 0 0) [] from ⟨rfl, .inr ⟨w.heap.size, 0, #[], rfl, Nat.le_refl _, heap_alloc_new w _, Nat.le_refl _, by decide, rfl, rfl⟩⟩)
    have HN := Lib.hid (lst_news (hv.below HB0.out))
    obtain ⟨i0, hi, hz0, hz1, hz2⟩ := info_parts Ks.infoField
    clear hv hn
    have hnil := fun W : World => Lib.run_eql_slice_nil (P := Tryd.prog) W 22 38 (some ad) l.length cap 0 0 Tryd.underlying22
    go_enter Tryd.func58, Tryd.ntmps58
    go_wp2_with (first
      | (at_builtin; refine wpList_append_own _ rfl (.tmp 5) (.tmp 6) 22 rfl w.heap.size 38 i0 (.agg #[.string ⟨#[]⟩, .string ⟨#[]⟩]) 2 32 Tryd.underlying22 hi hz0 hz1 hz2 rfl (by decide) (.slice (some ⟨w.heap.size, 0, none⟩) 0 0) 0 [] rfl HE.out ad l.length cap (encFs l) rfl (Ks.encFs_len l) HN.out (encFs_one l) (by unfold maxLen; omega) (by omega) (by simp) ?_; intro v' w1 own1 grow1 _; have HB1 := Lib.hid (show Below w.heap.size w w1 from HB0.out.grown grow1 (by simp) (fun k hk => (HE.out.lt k hk).1)); have HO1 := Lib.hid own1; clear own1 grow1))
    go_wp2
    obtain ⟨q', cap', rfl⟩ := Ks.own_slice HO1.out
    go_ret
    refine ⟨⟨q', cap', ?_, ?_⟩, HB1.out⟩
    · show Ending.returned (Value.slice q' (0 + l.length) cap') = _
      rw [Nat.zero_add]
    · have := HO1.out
      rw [Nat.zero_add, List.nil_append] at this
      exact this
/-- the pairs of another name -/
def dropN (nm : ByteArray) (l : List Fd) : List Fd := l.filter fun x => !isN nm x
theorem has_setCells {g : Nat} {t : TypeId} : ∀ (vs : List Value) (o : Nat) (w : World) (cs : Array Value), Has w g (.cells cs t) → ∃ cs', Has (w.setCells g o vs) g (.cells cs' t) ∧ cs'.size = cs.size ∧ cs'.toList.take o = cs.toList.take o
  | [], o, w, cs, h => ⟨cs, h, rfl, rfl⟩
  | v :: vs, o, w, cs, h => by
    obtain ⟨cs', h1, h2, h3⟩ := has_setCells vs (o + 1) _ _ (Has.set h o v)
    refine ⟨cs', h1, by rw [h2]; simp, ?_⟩
    have h4 := congrArg (List.take o) h3
    rw [List.take_take, List.take_take, Nat.min_eq_left (by omega)] at h4
    rw [h4, Array.toList_setIfInBounds, List.take_set_of_le (Nat.le_refl o)]
theorem run_clear2 (w : World) (g k n c : Nat) (rest : List Value) (D : List Fd) (hR : RowF w g rest D) (hn : 0 < n) (hD : k + n ≤ D.length) (ty : TypeId) :
    ∃ vs, (Builtin.clear_ #[22] ty #[.slice (some ⟨g, k * 2, none⟩) n c]).run Tryd.prog w = .ok (.tuple #[]) (w.setCells g (k * 2) vs) := by
  obtain ⟨m, rfl⟩ : ∃ m, n = m + 1 := ⟨n - 1, by omega⟩
  have hz : ∀ W, (zeroValue 38).run Tryd.prog W = .ok (.agg #[.string ⟨#[]⟩, .string ⟨#[]⟩]) W := Tryd.zeroValue38
  have hlen : (Builtin.zeroCells (Value.agg #[.string ⟨#[]⟩, .string ⟨#[]⟩]).cells (m + 1)).toList.length = (m + 1) * 2 := by simp [Builtin.zeroCells, Value.cells]
  have hst := run_storeCells_cells (P := Tryd.prog) g (k * 2) (Builtin.zeroCells (Value.agg #[.string ⟨#[]⟩, .string ⟨#[]⟩]).cells (m + 1)).toList 0 w
    (fun j hj => by
      rw [hlen] at hj
      rw [cell_of_row _ _ _ _ _ _ hR]
      have : k * 2 + 0 + j < (encFs D ++ rest).length := by rw [List.length_append, Ks.encFs_len]; omega
      rw [List.length_append] at this
      simp
      omega)
    (fun j _ => hR.f _)
    (by
      intro v hv
      simp [Builtin.zeroCells, Value.cells] at hv
      obtain ⟨i, _, hi⟩ := hv
      rcases Nat.mod_two_eq_zero_or_one i with h | h <;> simp [h] at hi <;> subst hi <;> rfl)
  refine ⟨(Builtin.zeroCells (Value.agg #[.string ⟨#[]⟩, .string ⟨#[]⟩]).cells (m + 1)).toList, ?_⟩
  rw [Nat.add_zero] at hst
  simp only [Builtin.clear_]
  simp [run_underlying Tryd.underlying22, hz, hst]
end Go.Proofs.YtnjnhgeafbofkaaDoor
/-
  The contract of query's units: the UTF-16 of a text.
-/
namespace Go.Proofs.YtnjnhgeafbofkaaDoor
open Go.RowKit
def un1 (r : Int) : List Int := if r < 65536 then [r] else [55296 + (r - 65536) / 1024, 56320 + (r - 65536) % 1024]
def unL (l : List Int) : List Int := l.flatMap un1
abbrev u16s (l : List Int) : List Value := l.map (Value.int .u16)
theorem infoU16 : (Tryd.prog.info? 70).map (fun i => (i.zero, i.size, i.bytes)) = some (some (.int .u16 0), 1, 2) := by kernel_rfl
theorem un_snoc (l : List Int) (k : Nat) (h : k < l.length) : unL (l.take (k + 1)) = unL (l.take k) ++ un1 l[k] := by
  unfold unL
  rw [List.take_succ_eq_append_getElem h, List.flatMap_append]; simp
theorem un_len (l : List Int) : (unL l).length ≤ 2 * l.length := by
  induction l with
  | nil => simp [unL]
  | cons r l ih =>
    unfold unL at *
    rw [List.flatMap_cons, List.length_append, List.length_cons]
    have : (un1 r).length ≤ 2 := by unfold un1; split <;> simp
    omega
abbrev OwnU (w : World) (B : Nat) (v : Value) (l : List Int) : Prop := w.ownsRow B 70 1 v l.length (u16s l)
theorem one_u (l : List Int) : ∀ u ∈ u16s l, u.oneCell' = true := by
  intro u hu
  obtain ⟨x, _, rfl⟩ := List.mem_map.1 hu; rfl
theorem own_app_u {w : World} {B : Nat} {v : Value} {l m : List Int} (h : w.ownsRow B 70 1 v (l.length + m.length) (u16s l ++ u16s m)) : OwnU w B v (l ++ m) := by
  unfold OwnU; rw [List.length_append, show u16s (l ++ m) = u16s l ++ u16s m from List.map_append]; exact h
theorem own_base_u {w : World} {B B' : Nat} {v : Value} {l : List Int} (h : OwnU w B v l) (hB : B' ≤ B) : OwnU w B' v l := ⟨h.1, h.2.imp id (fun ⟨g, cap, cur, h1, h2, h3⟩ => ⟨g, cap, cur, h1, Nat.le_trans hB h2, h3⟩)⟩
set_option maxHeartbeats 2000000 in
set_option maxRecDepth 100000 in
theorem units_is (s : ByteArray) (R : List Int) (hR : U.runesZ s.data.toList = R) (hs : s.size * 4 ≤ 70368744177664) (w : World) :
    Calls Tryd.prog 38 #[.string s] w fun e w' => (∃ v, e = .returned v ∧ OwnU w' w.heap.size v (unL R)) ∧ Below w.heap.size w w' := by
  obtain ⟨i0, hi, hz0, hz1, hz2⟩ := info_parts infoU16
  have hmay := U.runes_may s.data.toList
  have hcnt := (U.runes_count s.data.toList).1
  rw [len_list] at hcnt
  rw [hR] at hmay hcnt
  have HMAY := Lib.hid hmay
  have HD := Lib.hid (decode_runes s R hR (by omega) w)
  clear hmay hR
  go_enter Tryd.func38, Tryd.ntmps38
  go_wp2_with fail
  refine HD.out.mono ?_
  rintro e w1 ⟨v1, rfl, hr1, hb1⟩
  obtain ⟨p, cap, rfl, hcc⟩ := Runes.at hr1
  have HCC := Lib.hid hcc
  have HB1 := Lib.hid hb1
  clear hr1 hb1 hcc
  go_wp2_with fail
  go_loopw [3, 9] (fun s3 i wr => ∃ k : Nat, k ≤ R.length ∧ i = .int .i64 k ∧ Hid (OwnU wr w1.heap.size s3 (unL (R.take k))) ∧ Hid (Below w.heap.size w wr) ∧ Hid (Below w1.heap.size w1 wr)) (fun _ i _ => R.length - (intOf i).toNat)
  case atStart => exact ⟨0, by omega, rfl, Lib.hid (World.ownsRow_nil _ _ _ _), HB1, Lib.hid (Below.refl _ _)⟩
  case round =>
    obtain ⟨k, hk, rfl, HO, HB, HB'⟩ := hrel
    have hsz := HB'.out.size
    by_cases hlt : k < R.length
    · obtain ⟨g, o, rfl, hg, hx⟩ := HCC.out k R[k] (List.getElem?_eq_getElem hlt)
      have hx2 := (HB'.out.cell (p := ⟨g, o + k, none⟩) hg).trans hx
      have i1 : (k : Int) < (R.length : Int) := by omega
      have HSN := Lib.hid (un_snoc R k hlt)
      have hul : (unL (R.take k)).length ≤ 2 * k := by
        have := un_len (R.take k)
        rw [List.length_take_of_le (by omega)] at this
        exact this
      have hm := HMAY.out _ (List.getElem_mem hlt)
      unfold U.May at hm
      clear hx
      generalize unL (R.take k) = D at *
      generalize R[k] = r at *
      by_cases h6 : r < 65536
      · have HU := Lib.hid (show un1 r = [r] by unfold un1; rw [if_pos h6])
        have hw1 : IntKind.u16.wrap r = r := by unfold IntKind.wrap; simp [IntKind.signed, IntKind.bits]; omega
        go_wp2_with (at_builtin; refine wpList_append_own _ rfl (.tmp 15) (.tmp 18) 64 rfl w1.heap.size 70 i0 (.int .u16 0) 1 2 Tryd.underlying64 hi hz0 hz1 hz2 rfl (by decide) _ _ _ rfl (World.ownsRow.alloc HO.out _) ⟨wr.heap.size, 0, none⟩ 1 1 (u16s [r]) rfl rfl (fun j u hj => by rw [Addr.add_lit, cell_of_row _ _ _ _ _ _ (heap_alloc_new _ _), Nat.zero_add, List.getElem?_toArray]; exact hj) (one_u _) (by unfold maxLen; omega) (by omega) (by simp; omega) ?_; intro v' w4 hown' hgrow _; have HO4 := Lib.hid (show OwnU w4 w1.heap.size v' (D ++ [r]) from own_app_u hown'); have HB5 := Lib.hid (show Below w1.heap.size w1 w4 from (HB'.out.alloc (by omega) _).grown hgrow (by simp; omega) (fun k hk => (HO.out.lt k hk).1)); have HB4 := Lib.hid (show Below w.heap.size w w4 from HB1.out.trans (HB5.out.mono HB1.out.size)); clear hown' hgrow)
        go_roundw
        case rel => exact ⟨k + 1, by omega, by go_num, Lib.hid (by rw [HSN.out, HU.out]; exact HO4.out), HB4, HB5⟩
        case measure => simp [intOf]; omega
      · have HU := Lib.hid (show un1 r = [55296 + (r - 65536) / 1024, 56320 + (r - 65536) % 1024] by unfold un1; rw [if_neg h6])
        go_wp2_with (at_builtin; refine wpList_append_own _ rfl (.tmp 22) (.tmp 31) 64 rfl w1.heap.size 70 i0 (.int .u16 0) 1 2 Tryd.underlying64 hi hz0 hz1 hz2 rfl (by decide) _ _ _ rfl (World.ownsRow.alloc HO.out _) ⟨wr.heap.size, 0, none⟩ 2 2 (u16s [55296 + (r - 65536) / 1024, 56320 + (r - 65536) % 1024]) rfl rfl (fun j u hj => by rw [Addr.add_lit, cell_of_row _ _ _ _ _ _ (heap_alloc_new _ _), Nat.zero_add, List.getElem?_toArray]; exact hj) (one_u _) (by unfold maxLen; omega) (by omega) (by simp; omega) ?_; intro v' w4 hown' hgrow _; have HO4 := Lib.hid (show OwnU w4 w1.heap.size v' (D ++ [55296 + (r - 65536) / 1024, 56320 + (r - 65536) % 1024]) from own_app_u hown'); have HB5 := Lib.hid (show Below w1.heap.size w1 w4 from (HB'.out.alloc (by omega) _).grown hgrow (by simp; omega) (fun k hk => (HO.out.lt k hk).1)); have HB4 := Lib.hid (show Below w.heap.size w w4 from HB1.out.trans (HB5.out.mono HB1.out.size)); clear hown' hgrow)
        go_roundw
        case rel => exact ⟨k + 1, by omega, by go_num, Lib.hid (by rw [HSN.out, HU.out]; exact HO4.out), HB4, HB5⟩
        case measure => simp [intOf]; omega
    · have HF := Lib.hid (show unL (R.take k) = unL R by rw [List.take_of_length_le (by omega)])
      rw [HF.out] at HO
      go_wp2
      go_ret
      exact ⟨⟨_, rfl, own_base_u HO.out HB1.out.size⟩, HB.out⟩
end Go.Proofs.YtnjnhgeafbofkaaDoor
