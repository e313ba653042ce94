/-
  The contract of the document's Sort (bastionref11): the stable order by names.
-/
import Derived.Test.YtnjnhgeafbofkaaDoorHScM
import Derived.Test.YtnjnhgeafbofkaaDoorRefCM
import Derived.Test.YtnjnhgeafbofkaaDoorHSdM
import Derived.Maps.AppendAt
import Derived.Laws.AppendOwnNone
import Derived.BigQuiet
import Derived.Deep.AppendLies
import Derived.Deep.QuietTactic
namespace Go.Proofs.YtnjnhgeafbofkaaDoor
open Go.RowKit
theorem cut_at {α : Type} {lt : α → α → Bool} (O : SM.Ord lt) (l : List α) (x : α) (A B : List α) (h : SM.S lt l = A ++ B) (hB : ∀ b ∈ B, lt x b = true) (hA : ∀ a, A.getLast? = some a → lt x a = false) : SM.S lt (l ++ [x]) = A ++ x :: B := by
  rw [SM.S_snoc, h]
  refine SM.mrg_one (fun a ha => ?_) hB
  have hs := SM.S_srt O l
  rw [h] at hs
  unfold SM.Srt at hs
  rw [List.pairwise_append] at hs
  cases hl : A.getLast? with
  | none => rw [List.getLast?_eq_none_iff] at hl; subst hl; cases ha
  | some z =>
    obtain ⟨A', rfl⟩ := List.getLast?_eq_some_iff.1 hl
    have hz := hA z hl
    rcases List.mem_append.1 ha with ha | ha
    · have h1 := hs.1
      rw [List.pairwise_append] at h1
      exact O.1 a z x (h1.2.2 a ha z (List.mem_singleton.2 rfl)) hz
    · rw [List.mem_singleton.1 ha]; exact hz
theorem own_take {w : World} {B : Nat} {q : Option Addr} {n c : Nat} {l : List Fd} (h : OwnF w B (.slice q n c) l) (k : Nat) (hk : k ≤ l.length) : OwnF w B (.slice q k c) (l.take k) := by
  have hlen : (encFs (l.take k)).length = k * 2 := by rw [Ks.encFs_len, List.length_take_of_le hk]
  unfold OwnF
  rw [List.length_take_of_le hk]
  refine ⟨hlen, ?_⟩
  rcases h.2 with ⟨hv, h0⟩ | ⟨g, cap, cur, hv, hb, hg, hn, hm, hc, ht⟩
  · simp only [Value.slice.injEq] at hv
    obtain ⟨rfl, rfl, rfl⟩ := hv
    have : k = 0 := by omega
    subst this
    exact .inl ⟨rfl, rfl⟩
  · simp only [Value.slice.injEq] at hv
    obtain ⟨rfl, rfl, rfl⟩ := hv
    refine .inr ⟨g, c, cur, rfl, hb, hg, by omega, hm, hc, ?_⟩
    have e : encFs l = encFs (l.take k) ++ encFs (l.drop k) := by rw [← encFs_app, List.take_append_drop]
    have : cur.toList.take (k * 2) = (cur.toList.take (l.length * 2)).take (k * 2) := by rw [List.take_take]; congr 1; omega
    rw [this, ht, e, ← hlen, List.take_left']
    rfl
/-- the cells of what stands behind the first k -/
theorem own_drop_cells {w : World} {B : Nat} {g n c : Nat} {l : List Fd} (h : OwnF w B (.slice (some ⟨g, 0, none⟩) n c) l) (k : Nat) (hk : k ≤ l.length) : ∀ j u, (encFs (l.drop k))[j]? = some u → w.cell? ⟨g, k * 2 + j, none⟩ = some u := by
  intro j u hj
  have e : encFs l = encFs (l.take k) ++ encFs (l.drop k) := by rw [← encFs_app, List.take_append_drop]
  have hlen : (encFs (l.take k)).length = k * 2 := by rw [Ks.encFs_len, List.length_take_of_le hk]
  have := h.cells (g := g) rfl (k * 2 + j) u (by rw [e, List.getElem?_append_right (by omega), hlen, Nat.add_sub_cancel_left]; exact hj)
  rw [Addr.add_lit, Nat.zero_add] at this
  exact this
theorem own_ins {w : World} {B : Nat} {q : Option Addr} {n c : Nat} {A C : List Fd} {f : Fd} (h : w.ownsRow B 38 2 (.slice q n c) n ((encFs A ++ encFs [f]) ++ encFs C)) : OwnF w B (.slice q n c) (A ++ f :: C) := by
  have e : encFs (A ++ f :: C) = (encFs A ++ encFs [f]) ++ encFs C := by rw [show A ++ f :: C = (A ++ [f]) ++ C by simp, encFs_app, encFs_app]
  have hl : (A ++ f :: C).length = n := by
    have := h.1
    rw [← e, Ks.encFs_len] at this
    omega
  unfold OwnF
  rw [hl, e]; exact h
theorem step_append_own_at {P : Program} {w : World} {ops : Array Oper} {o : Oper} {a : Act} {K : Act → World → Prop} {Q : Exit → Act → World → Prop} {E : Prop} (hgd : o.guard = none) (s x : Operand) (t : TypeId)
    (ho : o.op = .call { callee := .builtin .append, args := #[s, x], argTypes := #[t, t] })
    (base : Nat) (e : TypeId) (i : TypeInfo) (z : Value) (size bytes : Nat) (ht : P.underlying t = some (.slice e)) (hi : P.info? e = some i) (hz : i.zero = some z)
    (hsize : i.size = size) (hby : i.bytes = bytes) (hzs : z.cells.size = size) (hsz : 0 < size)
    (v : Value) (n : Nat) (xs : List Value) (hs : a.eval s = v) (hown : w.ownsRow base e size v n xs)
    (ad : Addr) (m c : Nat) (news : List Value) (hx : a.eval x = .slice (some ad) m c) (hl : news.length = m * size) (hnews : ∀ j u, news[j]? = some u → w.cell? (ad.add j) = some u) (h1 : ∀ u ∈ news, u.oneCell' = true)
    (h63 : n + m ≤ maxLen) (hbytes : (n + m) * bytes ≤ 140737488355328) (hbase : base ≤ w.heap.size)
    (h : ∀ v' w', w'.ownsRow base e size v' (n + m) (xs ++ news) → w.grownBy w' v.ownBlock → (v' = .slice none 0 0 ↔ v = .slice none 0 0 ∧ m = 0) → (v'.ownBlock = v.ownBlock ∨ v'.ownBlock = some w.heap.size) → K (a.put o.dst v') w') :
    if Region.wanted o (yielded ops a.tmps) = true then Oper.wp P o a w K Q else E := by
  have hw : Region.wanted o (yielded ops a.tmps) = true := by simp [Region.wanted, hgd]
  rw [if_pos hw]
  obtain ⟨v', w', hr, h2, h3, h4, h5⟩ := run_append_own_at (P := P) w base t o.type e i z size bytes ht hi hz hsize hby hzs hsz v n xs hown ad m c news hl hnews h1 h63 hbytes hbase
  unfold Oper.wp execOp
  simp only [ho, resolve, invoke, builtin, Sem.run_bind, Sem.run_pure, Result.andThen_ok, List.map_toArray, List.map_cons, List.map_nil, hs, hx, hr]
  exact h _ _ h2 h3 h4 h5
set_option maxHeartbeats 4000000 in
set_option maxRecDepth 100000 in
theorem rsort_is (v0 : Value) (l : List Fd) (hl : l.length ≤ 1048576) (ht : ∀ x ∈ l, x.1.size ≤ 1048576) (w : World) (hv : Lst w v0 l) :
    Calls Tryd.prog 22 #[v0] w fun e w' => (∃ q c, e = .returned (.slice q l.length c) ∧ OwnF w' w.heap.size (.slice q l.length c) (sortF l)) ∧ Below w.heap.size w w' := by
  obtain ⟨i0, hi, hz0, hz1, hz2⟩ := info_parts Ks.infoField
  obtain ⟨p, cap, rfl, hA⟩ := hv
  have HA := Lib.hid hA
  have HTT := Lib.hid ht
  clear hA ht
  obtain ⟨n, hn⟩ : ∃ n, l.length = n := ⟨_, rfl⟩
  have HN := Lib.hid hn
  rw [hn] at hl ⊢
  clear hn
  go_enter Tryd.func22, Tryd.ntmps22
  go_wp2_with fail
  go_loopw [3, 10] (fun s3 i wr => ∃ (k : Nat) (q : Option Addr) (c : Nat), k ≤ n ∧ i = .int .i64 k ∧ s3 = .slice q k c ∧ Hid (OwnF wr w.heap.size (.slice q k c) (sortF (l.take k))) ∧ Hid (Below w.heap.size w wr)) (fun _ i _ => n - (intOf i).toNat)
  case atStart => exact ⟨0, none, 0, by omega, rfl, rfl, Lib.hid (World.ownsRow_nil _ _ _ _), Lib.hid (Below.refl _ _)⟩
  case round =>
    obtain ⟨k, q, c, hk, rfl, rfl, HO, HB⟩ := hrel
    have hsz := HB.out.size
    by_cases hlt : k < n
    · have hkl : k < l.length := by rw [HN.out]; exact hlt
      obtain ⟨g, o, rfl, hg, hx, hy⟩ := HA.out k l[k] (getF hkl)
      have hx2 := (HB.out.cell (p := ⟨g, o + k * 2, none⟩) hg).trans hx
      have hy2 := (HB.out.cell (p := ⟨g, o + k * 2 + 1, none⟩) hg).trans hy
      have i1 : (k : Int) < (n : Int) := by omega
      have HTK := Lib.hid (HTT.out l[k] (List.getElem_mem hkl))
      have HSN := Lib.hid (List.take_succ_eq_append_getElem hkl)
      have HXF := Lib.hid (show ∀ x ∈ sortF (l.take k), x.1.size ≤ 1048576 from fun x hx => HTT.out x (List.mem_of_mem_take ((sortF_mem _ x).1 hx)))
      have HXL := Lib.hid (show (sortF (l.take k)).length = k by rw [sortF_len, List.length_take_of_le (by omega)])
      have HCUT := Lib.hid (cut_at ltF_ord (l.take k) l[k])
      clear hx hy
      generalize l[k] = f at *
      obtain ⟨a, b⟩ := f
      have hx3 : wr.cell? ⟨g, o + k * 2, none⟩ = some (.string a) := hx2
      have hy3 : wr.cell? ⟨g, o + k * 2 + 1, none⟩ = some (.string b) := hy2
      clear hx2 hy2
      have HCUT2 := Lib.hid (show ∀ A B, sortF (l.take k) = A ++ B → (∀ y ∈ B, ltF (a, b) y = true) → (∀ y, A.getLast? = some y → ltF (a, b) y = false) → sortF (l.take (k + 1)) = A ++ (a, b) :: B from fun A B h1 h2 h3 => by rw [HSN.out]; exact HCUT.out A B h1 h2 h3)
      clear HCUT HSN
      generalize sortF (l.take k) = X at *
      obtain ⟨w0, rfl⟩ : ∃ w0, w0 = wr := ⟨_, rfl⟩
      have HB0 := Lib.hid (show Below w.heap.size w (w0.alloc (.cells #[.string a, .string b] 38)) from HB.out.alloc hsz _)
      have HOA := Lib.hid (show OwnF (w0.alloc (.cells #[.string a, .string b] 38)) w.heap.size (.slice q k c) X from World.ownsRow.alloc HO.out _)
      have HF0 := Lib.hid (show (w0.alloc (.cells #[.string a, .string b] 38)).cell? ⟨w0.heap.size, 0, none⟩ = some (.string a) from cell_of_row _ _ _ _ _ _ (heap_alloc_new w0 _))
      have HF1 := Lib.hid (show (w0.alloc (.cells #[.string a, .string b] 38)).cell? ⟨w0.heap.size, 1, none⟩ = some (.string b) from cell_of_row _ _ _ _ _ _ (heap_alloc_new w0 _))
      have hsa : (w0.alloc (.cells #[.string a, .string b] 38)).heap.size = w0.heap.size + 1 := by simp
      have HSA := Lib.hid hsa
      clear hsa
      have hm0 : Tryd.prog.follows .mixedOrders = true := by kernel_rfl
      go_wp2_with fail
      go_loopw [6] (fun s6 wq => ∃ j : Nat, j ≤ k ∧ s6 = .int .i64 j ∧ Hid (∀ y ∈ X.drop j, ltF (a, b) y = true) ∧ Hid (Below (w0.alloc (.cells #[.string a, .string b] 38)).heap.size (w0.alloc (.cells #[.string a, .string b] 38)) wq)) (fun s6 _ => (intOf s6).toNat)
      case atStart => exact ⟨k, Nat.le_refl _, rfl, Lib.hid (by rw [List.drop_eq_nil_of_le (by rw [HXL.out]; omega)]; simp), Lib.hid (Below.refl _ _)⟩
      case round =>
        obtain ⟨j, hj, rfl, HJ, HBJ⟩ := hrel
        have HOJ := Lib.hid (Ks.own_to HOA.out HBJ.out)
        have bx0 := (HBJ.out.cell (p := ⟨w0.heap.size, 0, none⟩) (by simp)).trans HF0.out
        have bx1 := (HBJ.out.cell (p := ⟨w0.heap.size, 1, none⟩) (by simp)).trans HF1.out
        have hwj := HBJ.out.size
        rw [HSA.out] at hwj
        by_cases hstop : ∃ jp, j = jp + 1 ∧ ∃ y, X[jp]? = some y ∧ ltF (a, b) y = true
        · obtain ⟨jp, rfl, y, hXy, hc⟩ := hstop
          have hk0 : 0 < k := by omega
          obtain ⟨g', hq', cy0, cy1, hgw⟩ : ∃ g', q = some ⟨g', 0, none⟩ ∧ wr.cell? ⟨g', jp * 2, none⟩ = some (.string y.1) ∧ wr.cell? ⟨g', jp * 2 + 1, none⟩ = some (.string y.2) ∧ g' < wr.heap.size := by
            rcases HOJ.out.2 with ⟨hv, h0⟩ | ⟨g', cap', cur, hv, _, hg', _⟩
            · rw [HXL.out] at h0; omega
            · simp only [Value.slice.injEq] at hv
              obtain ⟨rfl, -, -⟩ := hv
              have hcl := own_drop_cells HOJ.out jp (by rw [HXL.out]; omega)
              obtain ⟨hl, he⟩ := List.getElem?_eq_some_iff.1 hXy
              rw [List.drop_eq_getElem_cons hl, he] at hcl
              exact ⟨g', rfl, hcl 0 _ rfl, hcl 1 _ rfl, (Array.getElem?_eq_some_iff.1 hg').1⟩
          subst hq'
          have HY := Lib.hid (HXF.out y (List.mem_of_getElem? hXy))
          have HCALL := Lib.hid (show ∀ W, Calls Tryd.prog 42 #[.string a, .string y.1] W fun e w' => e = .returned (.bool true) ∧ Below W.heap.size W w' from fun W => by
            have := rahead_is a y.1 _ _ rfl rfl HTK.out HY.out W
            have e : decide (cmpU (unL (U.runesZ a.data.toList)) (unL (U.runesZ y.1.data.toList)) < 0) = true := hc
            rw [e] at this; exact this)
          have HJN := Lib.hid (show ∀ z ∈ X.drop jp, ltF (a, b) z = true from fun z hz => by
            obtain ⟨hl, he⟩ := List.getElem?_eq_some_iff.1 hXy
            rw [List.drop_eq_getElem_cons hl] at hz
            rcases List.mem_cons.1 hz with rfl | hz
            · rw [he]; exact hc
            · exact HJ.out z hz)
          clear hc hXy
          have wj : IntKind.i64.wrap ((jp : Int) + 1 - 1) = (jp : Int) := by rw [show (jp : Int) + 1 - 1 = (jp : Int) by omega]; exact IntWalk.i64_in _ (by omega)
          have wj0 : IntKind.i64.wrap (jp : Int) = (jp : Int) := IntWalk.i64_in _ (by omega)
          have q0 : (0 : Int) < (jp : Int) + 1 := by omega
          have q0' : decide ((0 : Int) < (jp : Int) + 1) = true := decide_eq_true q0
          have q2 : (jp : Int) < (k : Int) := by omega
          have k0 : ∀ p : Later wr, p.v.cell? ⟨g', jp * 2, none⟩ = some (.string y.1) := fun p => p.c cy0 hgw
          have k1 : ∀ p : Later wr, p.v.cell? ⟨w0.heap.size, 0, none⟩ = some (.string a) := fun p => p.c bx0 (by omega)
          go_wp2_with fail
          refine wp_region_quiet_later (by assumption) (by kernel_rfl) ?_
          repeat (quiet_step ((go_at_call 42; exact Calls.later_of (HCALL.out _))))
          refine wpQuiet_nil ?_
          rintro w2 ⟨⟨_, h2⟩, rfl⟩
          clear k0 k1
          go_wp2
          go_roundw
          case rel => exact ⟨jp, by omega, by simp [wj], HJN, Lib.hid (HBJ.out.trans (h2.mono (by rw [HSA.out]; omega)))⟩
          case measure => simp [intOf]
        · have HNEW := Lib.hid (show sortF (l.take (k + 1)) = X.take j ++ (a, b) :: X.drop j from HCUT2.out _ _ (List.take_append_drop j X).symm HJ.out (fun y hy => by
            cases j with
            | zero => simp at hy
            | succ jp =>
              have hxl : jp < X.length := by rw [HXL.out]; omega
              rw [List.take_succ_eq_append_getElem hxl, List.getLast?_concat] at hy
              cases hy
              cases hf : ltF (a, b) X[jp] with
              | false => rfl
              | true => exact absurd ⟨jp, rfl, _, List.getElem?_eq_getElem hxl, hf⟩ hstop))
          rcases HOJ.out.2 with ⟨hv, h0⟩ | ⟨g', cap', cur, hv, hgb, hg', hnc, hmc, _, _⟩
          · simp only [Value.slice.injEq] at hv
            obtain ⟨rfl, hk0, rfl⟩ := hv
            have hk00 : k = 0 := by first | exact hk0 | omega
            subst hk00
            have hj0 : j = 0 := by omega
            subst hj0
            have hXn : X = [] := List.eq_nil_of_length_eq_zero HXL.out
            subst hXn
            clear hstop
            go_wp2_with fail
            refine wp_region_quiet_later (by assumption) (by kernel_rfl) ?_
            repeat (go_big_quiet_step (fail))
            refine wpQuiet_nil ?_
            rintro w2 ⟨⟨_, h2⟩, rfl⟩
            have H2 := Lib.hid h2
            clear h2
            have HB2 := Lib.hid (show Below w.heap.size w w2 from HB0.out.trans ((HBJ.out.trans (H2.out.mono (by rw [HSA.out]; omega))).mono HB0.out.size))
            have by0 := (H2.out.cell (p := ⟨w0.heap.size, 0, none⟩) (show w0.heap.size < wr.heap.size by omega)).trans bx0
            have by1 := (H2.out.cell (p := ⟨w0.heap.size, 1, none⟩) (show w0.heap.size < wr.heap.size by omega)).trans bx1
            have hw2 := H2.out.size
            have HE3 := Lib.hid (show (w2.alloc (.cells #[] 38)).ownsRow w2.heap.size 38 2 (.slice (some ⟨w2.heap.size, 0, none⟩) 0 0) 0 [] from ⟨rfl, .inr ⟨w2.heap.size, 0, #[], rfl, Nat.le_refl _, heap_alloc_new w2 _, Nat.le_refl _, by decide, rfl, rfl⟩⟩)
            go_wp2_with (at_builtin; refine wpList_append_own_none rfl (.tmp 31) (.tmp 34) 22 rfl w2.heap.size 38 i0 2 Tryd.underlying22 hi _ 0 [] rfl HE3.out rfl ?_)
            have bz0 := (World.cell?_alloc_past (w := w2) (.cells #[] 38) w0.heap.size 0 (by omega)).trans by0
            have bz1 := (World.cell?_alloc_past (w := w2) (.cells #[] 38) w0.heap.size 1 (by omega)).trans by1
            have HB7 := Lib.hid (HB2.out.alloc (by omega) (.cells #[] 38))
            have hs7 := HB7.out.size
            obtain ⟨w7, hw7⟩ : ∃ w7, w2.alloc (.cells #[] 38) = w7 := ⟨_, rfl⟩
            have hs72 : w7.heap.size = w2.heap.size + 1 := by rw [← hw7]; simp
            rw [hw7] at bz0 bz1 HB7 hs7 HE3 ⊢
            clear hw7
            have hs7' : w2.heap.size < w7.heap.size := by omega
            clear hs72
            have HR9 := Lib.hid (World.ownsRow.drew (World.ownsRow.alloc HE3.out (.cells #[.string a, .string b] 38)))
            have HPC := Lib.hid (show ∀ j' u, (encFs [(a, b)])[j']? = some u → ((w7.alloc (.cells #[.string a, .string b] 38)).drew).cell? ((⟨w7.heap.size, 0, none⟩ : Addr).add j') = some u from fun j' u hj' => (cell_drew _ _).trans (pair_cells w7 (a, b) j' u hj'))
            have HB9 := Lib.hid ((HB7.out.alloc (by omega) (.cells #[.string a, .string b] 38)).drew)
            go_region_law (first
              | (refine step_append_own_at rfl (.tmp 38) (.tmp 40) 22 rfl w.heap.size 38 i0 (.agg #[.string ⟨#[]⟩, .string ⟨#[]⟩]) 2 32 Tryd.underlying22 hi hz0 hz1 hz2 rfl (by decide) _ 0 [] rfl (World.ownsRow_nil _ _ _ _) ⟨w7.heap.size, 0, none⟩ 1 1 (encFs [(a, b)]) rfl rfl HPC.out (encFs_one _) (by unfold maxLen; omega) (by omega) (by simp; omega) ?_; intro v8 w8 own8 grow8 _ blk8; have HO8 := Lib.hid own8; have HR8 := Lib.hid (HR9.out.kept grow8 (.inr (fun e => by cases e))); have HB8 := Lib.hid (HB9.out.grown grow8 (by simp; omega) (fun r hr => by cases hr)); clear own8 grow8 blk8)
              | (refine step_append_own_at rfl (.tmp 41) (.tmp 42) 22 rfl w.heap.size 38 i0 (.agg #[.string ⟨#[]⟩, .string ⟨#[]⟩]) 2 32 Tryd.underlying22 hi hz0 hz1 hz2 rfl (by decide) _ _ _ rfl HO8.out ⟨w2.heap.size, 0, none⟩ 0 0 [] rfl rfl (fun j' u hj' => by simp at hj') (fun u hu => by cases hu) (by unfold maxLen; omega) (by omega) (by have := HB8.out.size; omega) ?_; intro v9 w9 own9 grow9 _ blk9; obtain ⟨q9, c9, rfl⟩ := own_slice_any own9; have HO9 := Lib.hid own9; have HBX := Lib.hid (HB8.out.grown grow9 (by have := HB8.out.size; omega) (fun r hr => (HO8.out.lt r hr).1)); clear own9 grow9 blk9))
            go_wp2
            go_roundw
            case rel =>
              refine ⟨0 + 1, q9, c9, by omega, by go_num, by first | rfl | simp, Lib.hid ?_, HBX⟩
              rw [HNEW.out]
              have := own_ins (A := []) (C := []) (f := (a, b)) (w := w9) (B := w.heap.size) (q := q9) (n := 0 + 1) (c := c9) (by simpa [encFs, Ks.encFs] using HO9.out)
              simpa using this
            case measure => simp [intOf]; omega
          · simp only [Value.slice.injEq, and_true] at hv
            obtain ⟨rfl, hk0, rfl⟩ := hv
            have hgw : g' < wr.heap.size := (Array.getElem?_eq_some_iff.1 hg').1
            rw [HXL.out] at hnc
            clear hg' hk0
            have hjc : ¬ (c < j) := by omega
            have hjk : ¬ (k < j) := by omega
            have hjc2 : j ≤ c := by omega
            have hjx : j ≤ X.length := by rw [HXL.out]; omega
            have HJK := Lib.hid (And.intro hj hnc)
            have ways : j = 0 ∨ ∃ jp, j = jp + 1 := by cases j with
              | zero => exact .inl rfl
              | succ jp => exact .inr ⟨jp, rfl⟩
            rcases ways with hj0 | ⟨jp, hj1⟩
            focus
              have q0 : ¬ (0 : Int) < (j : Int) := by omega
              have q0' : decide ((0 : Int) < (j : Int)) = false := decide_eq_false q0
              have q0'' : decide (0 < j) = false := by simp; omega
              clear hstop hj0
              go_wp2_with fail
              refine wp_region_quiet_later (by assumption) (by kernel_rfl) ?_
              repeat (go_big_quiet_step (fail))
              refine wpQuiet_nil ?_
              rintro w2 ⟨⟨_, h2⟩, rfl⟩
              have H2 := Lib.hid h2
              clear q0 q0' q0'' h2
            rotate_left
            focus
              have hxl : jp < X.length := by rw [HXL.out]; omega
              obtain ⟨y, hXy⟩ : ∃ y, X[jp]? = some y := ⟨_, List.getElem?_eq_getElem hxl⟩
              have hc : ltF (a, b) y = false := by
                cases hf : ltF (a, b) y with
                | false => rfl
                | true => exact absurd ⟨jp, hj1, y, hXy, hf⟩ hstop
              have hcl := own_drop_cells HOJ.out jp (by rw [HXL.out]; omega)
              obtain ⟨hl', he⟩ := List.getElem?_eq_some_iff.1 hXy
              rw [List.drop_eq_getElem_cons hl', he] at hcl
              have cy0 := hcl 0 _ rfl
              clear hcl he hl' hxl
              have HY := Lib.hid (HXF.out y (List.mem_of_getElem? hXy))
              have HCALL := Lib.hid (show ∀ W, Calls Tryd.prog 42 #[.string a, .string y.1] W fun e w' => e = .returned (.bool false) ∧ Below W.heap.size W w' from fun W => by
                have := rahead_is a y.1 _ _ rfl rfl HTK.out HY.out W
                have e : decide (cmpU (unL (U.runesZ a.data.toList)) (unL (U.runesZ y.1.data.toList)) < 0) = false := hc
                rw [e] at this; exact this)
              clear hc hXy hstop
              have wj : IntKind.i64.wrap ((j : Int) - 1) = (jp : Int) := by rw [show (j : Int) - 1 = (jp : Int) by omega]; exact IntWalk.i64_in _ (by omega)
              have wj0 : IntKind.i64.wrap (jp : Int) = (jp : Int) := IntWalk.i64_in _ (by omega)
              have q0 : (0 : Int) < (j : Int) := by omega
              have q0' : decide ((0 : Int) < (j : Int)) = true := decide_eq_true q0
              have q0'' : decide (0 < j) = true := by simp; omega
              have q2 : (jp : Int) < (k : Int) := by omega
              clear hj1
              have k0 : ∀ p : Later wr, p.v.cell? ⟨g', jp * 2, none⟩ = some (.string y.1) := fun p => p.c cy0 hgw
              have k1 : ∀ p : Later wr, p.v.cell? ⟨w0.heap.size, 0, none⟩ = some (.string a) := fun p => p.c bx0 (by omega)
              go_wp2_with fail
              refine wp_region_quiet_later (by assumption) (by kernel_rfl) ?_
              repeat (quiet_step ((go_at_call 42; exact Calls.later_of (HCALL.out _))))
              refine wpQuiet_nil ?_
              rintro w2 ⟨⟨_, h2⟩, rfl⟩
              have H2 := Lib.hid h2
              clear k0 k1 q0 q0' q0'' q2 wj wj0 h2 cy0
            all_goals
              have HB2 := Lib.hid (show Below w.heap.size w w2 from HB0.out.trans ((HBJ.out.trans (H2.out.mono (by rw [HSA.out]; omega))).mono HB0.out.size))
              have HO2 := Lib.hid (Ks.own_to HOJ.out H2.out)
              have by0 := (H2.out.cell (p := ⟨w0.heap.size, 0, none⟩) (show w0.heap.size < wr.heap.size by omega)).trans bx0
              have by1 := (H2.out.cell (p := ⟨w0.heap.size, 1, none⟩) (show w0.heap.size < wr.heap.size by omega)).trans bx1
              have hw2 := H2.out.size
              have HE3 := Lib.hid (show (w2.alloc (.cells #[] 38)).ownsRow w2.heap.size 38 2 (.slice (some ⟨w2.heap.size, 0, none⟩) 0 0) 0 [] from ⟨rfl, .inr ⟨w2.heap.size, 0, #[], rfl, Nat.le_refl _, heap_alloc_new w2 _, Nat.le_refl _, by decide, rfl, rfl⟩⟩)
              have HCL := Lib.hid (own_drop_cells (World.ownsRow.alloc HO2.out (.cells #[] 38)) j hjx)
              have HNIL := Lib.hid (show k = j → encFs (X.drop j) = [] from fun e => by rw [List.drop_eq_nil_of_le (by rw [HXL.out]; omega)]; rfl)
              have HLN := Lib.hid (show (encFs (X.drop j)).length = (k - j) * 2 by rw [Ks.encFs_len, List.length_drop, HXL.out])
              have HDL := Lib.hid (show (X.drop j).length = k - j by rw [List.length_drop, HXL.out])
              have HKK := Lib.hid (show ∀ m7, m7 = k - j → j + 1 + m7 = k + 1 from fun m7 h => by omega)
              have way3 : (j < k ∧ ¬ c = j ∧ ¬ k - j = 0) ∨ (k = j ∧ c = j) ∨ (k = j ∧ ¬ c = j) := by omega
              rcases way3 with ⟨w1', hcj, hkj⟩ | ⟨rfl, rfl⟩ | ⟨rfl, hcj⟩
              all_goals
                go_wp2_with (at_builtin; refine wpList_append_own_at _ rfl (.tmp 31) (.tmp 34) 22 rfl w2.heap.size 38 i0 (.agg #[.string ⟨#[]⟩, .string ⟨#[]⟩]) 2 32 Tryd.underlying22 hi hz0 hz1 hz2 rfl (by decide) _ 0 [] rfl HE3.out _ _ _ (encFs (X.drop _)) rfl (HLN.out.trans (by first | rfl | omega)) (fun j' u hj' => by first | (rw [HNIL.out rfl] at hj'; simp at hj'; done) | (rw [Addr.add_lit]; exact HCL.out j' u hj')) (encFs_one _) (by unfold maxLen; omega) (by omega) (by simp) ?_; intro v7 w7 own7 grow7 nil7 _; have HO7 := Lib.hid own7; have HG7 := Lib.hid grow7; have HN7 := Lib.hid nil7; clear own7 grow7 nil7)
                obtain ⟨g7, c7, m7, rfl, hg7, HR7, HM7⟩ : ∃ g7 c7 m7, v7 = .slice (some ⟨g7, 0, none⟩) m7 c7 ∧ w2.heap.size ≤ g7 ∧ Hid (w7.ownsRow w2.heap.size 38 2 v7 m7 (encFs (X.drop _))) ∧ Hid ((X.drop _).length = m7) := by
                  have h7 := HO7.out
                  rw [Nat.zero_add, List.nil_append] at h7
                  rcases h7.2 with ⟨h1, _⟩ | ⟨g7, c7, cur, h1, h2, _⟩
                  · have := (HN7.out.1 h1).1; cases this
                  · exact ⟨g7, c7, _, h1, h2, Lib.hid h7, Lib.hid (HDL.out.trans (by have := h7.1; have h8 := HLN.out.symm.trans this; omega))⟩
                have HX7 := Lib.hid (show OwnF w7 w.heap.size (.slice (some ⟨g', 0, none⟩) _ _) X from (World.ownsRow.alloc HO2.out _).kept HG7.out (.inr (fun e => by have e2 := Option.some.inj e; dsimp only at e2; omega)))
                have HT7 := Lib.hid (show w7.ownsRow w.heap.size 38 2 (.slice (some ⟨g', 0, none⟩) _ _) _ (encFs (X.take _)) from by have := own_take HX7.out _ hjx; unfold OwnF at this; rw [List.length_take_of_le hjx] at this; exact this)
                have bz0 := (HG7.out.cell_far ⟨w0.heap.size, 0, none⟩ (by simp only [World.size_alloc]; omega) (fun e => by have e2 := Option.some.inj e; dsimp only at e2; omega)).trans ((World.cell?_alloc_past (w := w2) _ w0.heap.size 0 (by omega)).trans by0)
                have bz1 := (HG7.out.cell_far ⟨w0.heap.size, 1, none⟩ (by simp only [World.size_alloc]; omega) (fun e => by have e2 := Option.some.inj e; dsimp only at e2; omega)).trans ((World.cell?_alloc_past (w := w2) _ w0.heap.size 1 (by omega)).trans by1)
                have HM8 := Lib.hid (HM7.out.symm.trans HDL.out)
                have hm7 : m7 ≤ n := by have := HM8.out; omega
                have HB7 := Lib.hid (show Below w.heap.size w w7 from (HB2.out.alloc (by omega) _).grown HG7.out (by simp only [World.size_alloc]; omega) (fun r hr => Nat.le_trans (by omega) (HE3.out.lt r hr).1))
                have hs7 := HB7.out.size
                have HT9 := Lib.hid (World.ownsRow.drew (World.ownsRow.alloc HT7.out (.cells #[.string a, .string b] 38)))
                have HR9 := Lib.hid (World.ownsRow.drew (World.ownsRow.alloc HR7.out (.cells #[.string a, .string b] 38)))
                have HPC := Lib.hid (show ∀ j' u, (encFs [(a, b)])[j']? = some u → ((w7.alloc (.cells #[.string a, .string b] 38)).drew).cell? ((⟨w7.heap.size, 0, none⟩ : Addr).add j') = some u from fun j' u hj' => (cell_drew _ _).trans (pair_cells w7 (a, b) j' u hj'))
                have HB9 := Lib.hid ((HB7.out.alloc (by omega) (.cells #[.string a, .string b] 38)).drew)
                have HLE := Lib.hid hjx
                clear hjx
                go_region_law (first
                  | (refine step_append_own_at rfl (.tmp 38) (.tmp 40) 22 rfl w.heap.size 38 i0 (.agg #[.string ⟨#[]⟩, .string ⟨#[]⟩]) 2 32 Tryd.underlying22 hi hz0 hz1 hz2 rfl (by decide) _ _ _ rfl HT9.out ⟨w7.heap.size, 0, none⟩ 1 1 (encFs [(a, b)]) rfl rfl HPC.out (encFs_one _) (by unfold maxLen; omega) (by omega) (by simp; omega) ?_; intro v8 w8 own8 grow8 _ blk8; have HO8 := Lib.hid own8; have HR8 := Lib.hid (HR9.out.kept grow8 (.inr (fun e => by have e2 := Option.some.inj e; dsimp only at e2; omega))); have HB8 := Lib.hid (HB9.out.grown grow8 (by simp; omega) (fun r hr => (HT9.out.lt r hr).1)); clear own8 grow8 blk8)
                  | (refine step_append_own_at rfl (.tmp 41) (.tmp 42) 22 rfl w.heap.size 38 i0 (.agg #[.string ⟨#[]⟩, .string ⟨#[]⟩]) 2 32 Tryd.underlying22 hi hz0 hz1 hz2 rfl (by decide) _ _ _ rfl HO8.out ⟨g7, 0, none⟩ m7 c7 (encFs (X.drop _)) rfl HR8.out.1 (fun j' u hj' => HR8.out.cells (g := g7) rfl j' u hj') (encFs_one _) (by unfold maxLen; omega) (by omega) (by have := HB8.out.size; omega) ?_; intro v9 w9 own9 grow9 _ blk9; obtain ⟨q9, c9, rfl⟩ := own_slice_any own9; have HO9 := Lib.hid own9; have HBX := Lib.hid (HB8.out.grown grow9 (by have := HB8.out.size; omega) (fun r hr => (HO8.out.lt r hr).1)); clear own9 grow9 blk9))
                go_wp2
                go_roundw
                case rel =>
                  refine ⟨_ + 1, q9, c9, ?_, by go_num, ?_, Lib.hid ?_, HBX⟩
                  · omega
                  · rw [HKK.out _ HM8.out]
                  · rw [HNEW.out, ← HKK.out _ HM8.out]; exact own_ins HO9.out
                case measure => simp [intOf]; omega
    · have hkn : k = n := by omega
      subst hkn
      have HF := Lib.hid (show l.take k = l by rw [List.take_of_length_le (by rw [HN.out]; omega)])
      rw [HF.out] at HO
      go_wp2
      go_ret
      exact ⟨⟨q, c, rfl, HO.out⟩, HB.out⟩
end Go.Proofs.YtnjnhgeafbofkaaDoor
