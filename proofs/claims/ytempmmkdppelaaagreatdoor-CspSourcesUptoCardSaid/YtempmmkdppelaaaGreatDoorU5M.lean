/-
  The document's Copy.
-/
import Derived.Test.YtempmmkdppelaaaGreatDoorU3M
namespace Go.Proofs.YtempmmkdppelaaaGreatDoor
open Go.RowKit Go.Shelf
attribute [local go_sem] Oper.semAt_some
/-- what the operations of Copy's region yield -/
def VC (k : Nat) (v : Value) (nm : ByteArray) (x22 : Value) (vs : List ByteArray) (D b3 b5 : Nat) (i : Nat) (x : Value) (w : World) : Prop :=
  match i with
  | 0 => x = .pointer (some ⟨b3, 0, none⟩)
  | 1 => x = v
  | 2 => x = .pointer (some ⟨b5, 0, none⟩)
  | 3 => x = .string nm
  | 4 => ∃ B, x = .slice (some ⟨B, 0, none⟩) 0 0 ∧ OwnS w D x []
  | 5 => x = .pointer (some ⟨b5, 1, none⟩)
  | 6 => x = x22
  | 7 => ∃ q c, x = .slice q k c ∧ OwnS w D x vs
  | 8 => ∃ q c, x = .agg #[.string nm, .slice q k c] ∧ OwnS w D (.slice q k c) vs
  | _ => ∃ g q c, x = .slice (some ⟨g, 0, none⟩) 1 1 ∧ w.heap[g]? = some (.cells #[.string nm, .slice q k c] 35 (0, 0)) ∧ OwnS w D (.slice q k c) vs
theorem VC_mono (k : Nat) (v : Value) (nm : ByteArray) (x22 : Value) (vs : List ByteArray) (D b3 b5 : Nat) : ∀ (i : Nat) (x : Value) (w w' : World), VC k v nm x22 vs D b3 b5 i x w → Below w.heap.size w w' → VC k v nm x22 vs D b3 b5 i x w'
  | 0, _, _, _, h, _ => h
  | 1, _, _, _, h, _ => h
  | 2, _, _, _, h, _ => h
  | 3, _, _, _, h, _ => h
  | 4, _, _, _, ⟨B, h1, h2⟩, hb => ⟨B, h1, own_to h2 hb⟩
  | 5, _, _, _, h, _ => h
  | 6, _, _, _, h, _ => h
  | 7, _, _, _, ⟨q, c, h1, h2⟩, hb => ⟨q, c, h1, own_to h2 hb⟩
  | 8, _, _, _, ⟨q, c, h1, h2⟩, hb => ⟨q, c, h1, own_to h2 hb⟩
  | _ + 9, _, _, _, ⟨g, q, c, h1, h2, h3⟩, hb => ⟨g, q, c, h1, (hb.block g (Array.getElem?_eq_some_iff.1 h2).1).trans h2, own_to h3 hb⟩
theorem info9z : ∃ i, Tryz.prog.info? 9 = some i ∧ i.size = 1 := by
  have h : (Tryz.prog.info? 9).map (·.size) = some 1 := by kernel_rfl
  cases hi : Tryz.prog.info? 9 with
  | none => rw [hi] at h; cases h
  | some i => rw [hi] at h; exact ⟨i, rfl, Option.some.inj h⟩
theorem run_append_zero (ty : TypeId) (q q2 : Option Addr) (c c2 : Nat) (w : World) : (Builtin.append_ #[22, 22] ty #[.slice q 0 c, .slice q2 0 c2]).run Tryz.prog w = .ok (.slice q 0 c) w := by
  obtain ⟨i, hi, hz⟩ := info9z
  unfold Builtin.append_
  cases q <;> cases q2 <;> simp [go_sem, Tryz.underlying22, sizeOf, typeInfo, hi, Builtin.lenOf, Builtin.firstCells, storeCells]
theorem oper_append_zero {F : Fence} {n : Nat} {Q : Exit → Act → World → Prop} {o : Oper} {a : Act} {w : World} {K : Act → World → Prop} (s x : Operand) (hop : o.op = Op.call { callee := Callee.builtin Builtin.append, args := #[s, x], argTypes := #[22, 22] })
    (q q2 : Option Addr) (c c2 : Nat) (hs : a.eval s = .slice q 0 c) (hx : a.eval x = .slice q2 0 c2) (hK : K (a.put o.dst (.slice q 0 c)) w) : o.wpIn F n Tryz.prog a w K Q := by
  have hrun := run_append_zero o.type q q2 c c2 w
  unfold Oper.wpIn
  refine ⟨?_, ?_⟩
  · simp [Oper.about, hop, resolve, Target.leads, Sem.run_pure]
  · rw [Oper.semAt_plain F _ _ (by rw [hop]; intro c hc'; cases hc')]
    simp [execOp, hop, resolve, invoke, builtin, hs, hx, hrun, Result.andThen, Oper.uponIn]
    exact hK
theorem info9f : (Tryz.prog.info? 9).map (fun i => (i.zero, i.size, i.bytes)) = some (some (.string ⟨#[]⟩), 1, 16) := by kernel_rfl
theorem run_append_fresh (ty : TypeId) (D B : Nat) (ad : Addr) (c : Nat) (l : List ByteArray) (h0 : 0 < l.length) (h1 : l.length ≤ 1048576) (w : World) (hD : D ≤ w.heap.size) (hc : ∀ j z, (l.map Value.string)[j]? = some z → w.cell? (ad.add j) = some z) :
    ∃ cp w', (Builtin.append_ #[22, 22] ty #[.slice (some ⟨B, 0, none⟩) 0 0, .slice (some ad) l.length c]).run Tryz.prog w = .ok (.slice (some ⟨w.heap.size, 0, none⟩) l.length cp) w' ∧ OwnS w' D (.slice (some ⟨w.heap.size, 0, none⟩) l.length cp) l ∧ Below w.heap.size w w' := by
  obtain ⟨i9, hi9, hy0, hy1, hy2⟩ := info_parts info9f
  have hml : l.length ≤ maxLen := by unfold maxLen; omega
  have hr := run_append_grow (P := Tryz.prog) (w := w) 22 ty 9 i9 (.string ⟨#[]⟩) Tryz.underlying22 hi9 hy0 ⟨B, 0, none⟩ 0 0 [] (by simp) (by intro j v h; simp at h) ad l.length c (l.map Value.string) (by simp [hy1]) hc (by omega) (by omega) (growslice_fits (by omega) (by rw [hy2]; omega))
  rw [Nat.zero_add] at hr
  refine ⟨_, _, hr, ?_, ?_⟩
  · refine ⟨by simp, .inr ⟨w.heap.size, _, _, rfl, hD, heap_alloc_new w.drew _, grownCap_ge w _ 0 9, grownCap_le_maxLen w _ 0 9 hml, ?_, ?_⟩⟩
    · have := grownCap_ge w l.length 0 9
      simp only [Array.size_append, List.size_toArray, size_zeroCells, List.length_nil, List.length_map, Value.cells]
      simp; omega
    · simp only [Array.toList_append, List.append_assoc, List.nil_append]
      rw [Nat.mul_one]
      have hl : (l.map Value.string).length = l.length := by simp
      conv => lhs; arg 1; rw [← hl]
      exact List.take_left
  · exact ((Below.refl _ w).drew).alloc (Nat.le_refl _) _
theorem oper_append_fresh {F : Fence} {n : Nat} {Q : Exit → Act → World → Prop} {o : Oper} {a : Act} {w : World} {K : Act → World → Prop} (s x : Operand) (hop : o.op = Op.call { callee := Callee.builtin Builtin.append, args := #[s, x], argTypes := #[22, 22] })
    (D B : Nat) (ad : Addr) (c : Nat) (l : List ByteArray) (h0 : 0 < l.length) (h1 : l.length ≤ 1048576) (hD : D ≤ w.heap.size) (hs : a.eval s = .slice (some ⟨B, 0, none⟩) 0 0) (hx : a.eval x = .slice (some ad) l.length c) (hc : ∀ j z, (l.map Value.string)[j]? = some z → w.cell? (ad.add j) = some z)
    (hK : ∀ cp w', OwnS w' D (.slice (some ⟨w.heap.size, 0, none⟩) l.length cp) l → Below w.heap.size w w' → K (a.put o.dst (.slice (some ⟨w.heap.size, 0, none⟩) l.length cp)) w') : o.wpIn F n Tryz.prog a w K Q := by
  obtain ⟨cp, w', hrun, r1, r2⟩ := run_append_fresh o.type D B ad c l h0 h1 w hD hc
  unfold Oper.wpIn
  refine ⟨?_, ?_⟩
  · simp [Oper.about, hop, resolve, Target.leads, Sem.run_pure]
  · rw [Oper.semAt_plain F _ _ (by rw [hop]; intro c hc'; cases hc')]
    simp [execOp, hop, resolve, invoke, builtin, hs, hx, hrun, Result.andThen, Oper.uponIn]
    exact hK _ _ r1 r2
theorem ret25 {fn : Func} {p : Tmp} (h : fn.results = #[.cell p 25]) (tmps : Array Value) (W : World) (g : Nat) (cs : Array Value) (hp : tmps.getD p undef = .pointer (some ⟨g, 0, none⟩)) (hg : Has W g (.cells cs 25)) (hz : cs.size = 2) :
    (results fn tmps).run Tryz.prog W = .ok (.agg cs) W := by
  have hp' : tmps[p]?.getD undef = .pointer (some ⟨g, 0, none⟩) := by simpa using hp
  have hi : (Tryz.prog.info? 25).map (·.size) = some cs.size := by rw [hz]; kernel_rfl
  simp [results, h, hp', asAddr, run_loadVar_row W g 25 25 cs (0, 0) _ hg Tryz.underlying25 rfl hi]
set_option maxHeartbeats 4000000 in
set_option maxRecDepth 100000 in
theorem copy_is (v : Value) (l : List Dir) (rep : Bool) (hm : l.length ≤ 1048576) (hz : ∀ x ∈ l, x.2.length ≤ 1048576) (w : World) (hv : Dirs w v l) :
    Calls Tryz.prog 29 #[.agg #[v, .bool rep]] w fun e w' => (∃ q c rs, e = .returned (.agg #[.slice q l.length c, .bool rep]) ∧ OwnD w' w.heap.size (.slice q l.length c) rs ∧ rs.map RD.dir = l) ∧ Below w.heap.size w w' := by
  have hv' := hv
  obtain ⟨p, cap, rfl, hcap, _⟩ := hv
  obtain ⟨n, hn⟩ : ∃ n, l.length = n := ⟨_, rfl⟩
  rw [hn] at hm hv' hcap ⊢
  obtain ⟨X, hX⟩ : ∃ X, ((w.alloc (.cells #[.slice p n cap, .bool rep] 25)).alloc (.cells #[.slice none 0 0, .bool false] 25)).alloc (.cells #[.slice none 0 0, .bool rep] 25) = X := ⟨_, rfl⟩
  have hB0 : Below w.heap.size w X := hX ▸ ((bnew w _).alloc (by simp) _).alloc (by simp; omega) _
  have hs0 : X.heap.size = w.heap.size + 3 := by rw [← hX]; simp
  have h1 : Has X w.heap.size (.cells #[.slice p n cap, .bool rep] 25) := hX ▸ ((Has.new w _).alloc _).alloc _
  have h2 : Has X (w.heap.size + 1) (.cells #[.slice none 0 0, .bool false] 25) := by
    have := (Has.new (w.alloc (.cells #[.slice p n cap, .bool rep] 25)) (.cells #[.slice none 0 0, .bool false] 25)).alloc (.cells #[.slice none 0 0, .bool rep] 25)
    rw [hX, World.size_alloc] at this; exact this
  have h3 : Has X (w.heap.size + 2) (.cells #[.slice none 0 0, .bool rep] 25) := by
    have := Has.new ((w.alloc (.cells #[.slice p n cap, .bool rep] 25)).alloc (.cells #[.slice none 0 0, .bool false] 25)) (.cells #[.slice none 0 0, .bool rep] 25)
    rw [hX, World.size_alloc, World.size_alloc] at this; exact this
  have HN := Lib.hid hn
  have HV := Lib.hid hv'
  have HB := Lib.hid hB0
  have H1 := Lib.hid h1
  have H2 := Lib.hid h2
  have H3 := Lib.hid h3
  have HZ := Lib.hid hz
  have x0 := h1.cell 0 rfl
  have x1 := h1.cell 1 rfl
  clear hv' hB0 h1 h2 h3 hn hz
  go_enter Tryz.func29, Tryz.ntmps29
  go_wp2_with fail
  clear hX x0 x1
  go_loopw [12] (fun i wr => ∃ k : Nat, k ≤ n ∧ i = .int .i64 k ∧ Hid (Below (w.heap.size + 2) X wr) ∧ Hid (∃ v' rs, Has wr (w.heap.size + 2) (.cells #[v', .bool rep] 25) ∧ OwnD wr (w.heap.size + 3) v' rs ∧ rs.map RD.dir = l.take k)) (fun i _ => n - (intOf i).toNat)
  case atStart => exact ⟨0, by omega, rfl, Lib.hid ((Below.refl _ _).mono (show w.heap.size + 2 ≤ X.heap.size by omega)), Lib.hid ⟨_, [], H3.out, ⟨World.ownsRow_nil _ _ _ _, by simp⟩, rfl⟩⟩
  case round =>
    obtain ⟨k, hk, rfl, HW, HO⟩ := hrel
    have hsz : X.heap.size ≤ wr.heap.size := HW.out.size
    have HBW := Lib.hid (show Below w.heap.size w wr from HB.out.trans (HW.out.mono (by omega)))
    by_cases hlt : k < n
    · have hkl : k < l.length := by rw [HN.out]; exact hlt
      have i1 : (k : Int) < (n : Int) := by omega
      obtain ⟨p', c', e', _, hA⟩ := HV.out.to HBW.out
      simp only [Value.slice.injEq] at e'
      obtain ⟨rfl, -, rfl⟩ := e'
      obtain ⟨g, o, vx, rfl, hg, hx, hy, hz⟩ := hA k l[k] (getT hkl)
      have hz64 := HZ.out l[k] (List.getElem_mem hkl)
      have HTK := Lib.hid (show l.take (k + 1) = l.take k ++ [l[k]] from List.take_succ_eq_append_getElem hkl)
      clear hA
      generalize l[k] = f at *
      clear hkl
      obtain ⟨a, b⟩ := f
      simp only at hx hz hz64
      have HS := Lib.hid hz
      obtain ⟨q2, c2, rfl, _⟩ := hz
      obtain ⟨v', rs, ho3, hoD, hmap⟩ := HO.out
      obtain ⟨q, c, rfl⟩ : ∃ q c, v' = .slice q rs.length c := own_any hoD.row
      have hrk : rs.length = k := by have := congrArg List.length hmap; rw [List.length_map, List.length_take, HN.out] at this; omega
      obtain ⟨W1, hW1⟩ : ∃ W1, wr.alloc (.cells #[.string a, .slice q2 b.length c2] 35) = W1 := ⟨_, rfl⟩
      have hbW : Below wr.heap.size wr W1 := hW1 ▸ bnew wr _
      have H5 := Lib.hid (show Has W1 wr.heap.size (.cells #[.string a, .slice q2 b.length c2] 35) from hW1 ▸ Has.new wr _)
      have HBW1 := Lib.hid hbW
      have H3W := Lib.hid (ho3.to hbW)
      have HDW := Lib.hid (hoD.to hbW)
      have HSW := Lib.hid (HS.out.to hbW)
      have hsz1 : wr.heap.size + 1 ≤ W1.heap.size := by rw [← hW1]; simp
      have HM := Lib.hid hmap
      clear ho3 hoD hbW HS HO hmap
      go_wp2_with fail
      refine (wpIn_wide (n := 0)).1 ?_
      refine wpIn_region_tail (by kernel_rfl) 10 (by decide) (fun i => 16 + i) (VC b.length (.slice q rs.length c) a (.slice q2 b.length c2) b (w.heap.size + 3) (w.heap.size + 1 + 1) wr.heap.size) (fun w7 => Below W1.heap.size W1 w7) ?hlt ?hinj (by kernel_rfl) (by kernel_rfl) (VC_mono _ _ _ _ _ _ _ _) (fun _ _ h h' => h.trans (h'.mono h.size)) ?h0 ?hop ?htail
      case hlt => intro i hi; simp only [List.size_toArray, List.length_cons, List.length_nil]; omega
      case hinj => intro i j hi hj h; have h : 16 + i = 16 + j := h; omega
      case h0 => exact Below.drew (Below.refl _ _)
      case hop =>
        intro i o hi ho a2 w7 hF hg7 hd
        have hcase : i = 0 ∨ i = 1 ∨ i = 2 ∨ i = 3 ∨ i = 4 ∨ i = 5 ∨ i = 6 ∨ i = 7 ∨ i = 8 ∨ i = 9 := by omega
        have h3 : a2.eval (.tmp 3) = .pointer (some ⟨w.heap.size + 1 + 1, 0, none⟩) := (hF.2.2 3 (fun i _ => by show 16 + i ≠ 3; omega)).trans rfl
        have h5 : a2.eval (.tmp 5) = .pointer (some ⟨wr.heap.size, 0, none⟩) := (hF.2.2 5 (fun i _ => by show 16 + i ≠ 5; omega)).trans rfl
        have hc3 : w7.cell? ⟨w.heap.size + 1 + 1, 0, none⟩ = some (.slice q rs.length c) := (H3W.out.to hg7).cell 0 rfl
        have hc50 : w7.cell? ⟨wr.heap.size, 0, none⟩ = some (.string a) := (H5.out.to hg7).cell 0 rfl
        have hc51 : w7.cell? ⟨wr.heap.size, 1, none⟩ = some (.slice q2 b.length c2) := (H5.out.to hg7).cell 1 rfl
        have hD7 := hg7.size
        have HS7 := Lib.hid (HSW.out.to hg7)
        have HD0 := Lib.hid hd
        clear hd hF
        rcases hcase with rfl | rfl | rfl | rfl | rfl | rfl | rfl | rfl | rfl | rfl
        all_goals
          simp only [List.getElem?_toArray, List.getElem?_cons_zero, List.getElem?_cons_succ, Option.some.injEq] at ho
          subst ho
          have hd := HD0.out
          simp [Region.binds, VC] at hd
          refine ⟨rfl, ?_⟩
        · unfold Oper.wpIn
          refine ⟨fun _ _ => trivial, ?_⟩
          rw [Oper.semAt_plain Fence.wide _ _ (by intro c hc'; cases hc')]
          simp [execOp, h3]
          simp [go_sem]
          exact ⟨_, rfl, rfl, Below.refl _ _⟩
        · unfold Oper.wpIn
          refine ⟨fun _ _ => trivial, ?_⟩
          rw [Oper.semAt_plain Fence.wide _ _ (by intro c hc'; cases hc')]
          simp [execOp, hd]
          simp [go_sem, hc3]
          exact ⟨_, rfl, rfl, Below.refl _ _⟩
        · unfold Oper.wpIn
          refine ⟨fun _ _ => trivial, ?_⟩
          rw [Oper.semAt_plain Fence.wide _ _ (by intro c hc'; cases hc')]
          simp [execOp, h5]
          simp [go_sem]
          exact ⟨_, rfl, rfl, Below.refl _ _⟩
        · unfold Oper.wpIn
          refine ⟨fun _ _ => trivial, ?_⟩
          rw [Oper.semAt_plain Fence.wide _ _ (by intro c hc'; cases hc')]
          simp [execOp, hd]
          simp [go_sem, hc50]
          exact ⟨_, rfl, rfl, Below.refl _ _⟩
        · unfold Oper.wpIn
          refine ⟨fun _ _ => trivial, ?_⟩
          rw [Oper.semAt_plain Fence.wide _ _ (by intro c hc'; cases hc')]
          simp [execOp]
          simp [go_sem, Oper.uponIn]
          exact ⟨_, rfl, ⟨_, rfl, World.ownsRow_lit w7 #[] 0 (by omega) (by decide) rfl⟩, bnew _ _⟩
        · unfold Oper.wpIn
          refine ⟨fun _ _ => trivial, ?_⟩
          rw [Oper.semAt_plain Fence.wide _ _ (by intro c hc'; cases hc')]
          simp [execOp, h5]
          simp [go_sem]
          exact ⟨_, rfl, rfl, Below.refl _ _⟩
        · unfold Oper.wpIn
          refine ⟨fun _ _ => trivial, ?_⟩
          rw [Oper.semAt_plain Fence.wide _ _ (by intro c hc'; cases hc')]
          simp [execOp, hd]
          simp [go_sem, hc51]
          exact ⟨_, rfl, rfl, Below.refl _ _⟩
        · obtain ⟨⟨⟨B, hd1⟩, hd2⟩, hd3⟩ := hd
          rw [hd1] at hd2
          cases b with
          | nil =>
            refine oper_append_zero (.tmp 20) (.tmp 22) rfl _ q2 0 c2 hd1 hd3 ?_
            exact ⟨_, rfl, ⟨_, 0, rfl, hd2⟩, Below.refl _ _⟩
          | cons b0 b =>
            obtain ⟨q5, c5, hq5, hcells⟩ := HS7.out
            simp only [Value.slice.injEq] at hq5
            obtain ⟨rfl, -, rfl⟩ := hq5
            obtain ⟨g5, o5, rfl, hg5, _⟩ := hcells 0 b0 rfl
            refine oper_append_fresh (.tmp 20) (.tmp 22) rfl (w.heap.size + 3) B ⟨g5, o5, none⟩ c2 (b0 :: b) (by simp) (by simpa using hz64) (by omega) hd1 hd3 ?_ fun cp w8 ho8 hb8 => ⟨_, rfl, ⟨_, cp, rfl, ho8⟩, hb8⟩
            intro j z hj
            rw [List.getElem?_map] at hj
            obtain ⟨y, hy, rfl⟩ := Option.map_eq_some_iff.1 hj
            obtain ⟨g6, o6, e6, _, h6⟩ := hcells j y hy
            simp only [Option.some.injEq, Addr.mk.injEq, and_true] at e6
            obtain ⟨rfl, rfl⟩ := e6
            rw [Addr.add_lit]; exact h6
        · unfold Oper.wpIn
          refine ⟨fun _ _ => trivial, ?_⟩
          rw [Oper.semAt_plain Fence.wide _ _ (by intro c hc'; cases hc')]
          obtain ⟨hd1, ⟨q3, c3, hd2⟩, hd3⟩ := hd
          rw [hd2] at hd3
          simp [execOp, hd1, hd2]
          simp [go_sem, Oper.uponIn]
          exact ⟨_, rfl, ⟨_, _, rfl, hd3⟩, Below.refl _ _⟩
        · unfold Oper.wpIn
          refine ⟨fun _ _ => trivial, ?_⟩
          rw [Oper.semAt_plain Fence.wide _ _ (by intro c hc'; cases hc')]
          obtain ⟨q3, c3, hd1, hd3⟩ := hd
          simp [execOp, hd1]
          simp [go_sem, Oper.uponIn]
          exact ⟨_, rfl, ⟨_, _, _, rfl, heap_alloc_new w7 _, own_to hd3 (bnew _ _)⟩, bnew _ _⟩
      case htail =>
        intro a2 w7 hF hg7 hv
        obtain ⟨B, h20, _⟩ : ∃ B, a2.eval (.tmp 20) = .slice (some ⟨B, 0, none⟩) 0 0 ∧ OwnS w7 (w.heap.size + 3) (a2.eval (.tmp 20)) [] := hv 4 (by omega)
        obtain ⟨q7, c7, h23, _⟩ : ∃ q7 c7, a2.eval (.tmp 23) = .slice q7 b.length c7 ∧ OwnS w7 (w.heap.size + 3) (a2.eval (.tmp 23)) b := hv 7 (by omega)
        obtain ⟨q8, c8, h24, _⟩ : ∃ q8 c8, a2.eval (.tmp 24) = .agg #[.string a, .slice q8 b.length c8] ∧ OwnS w7 (w.heap.size + 3) (.slice q8 b.length c8) b := hv 8 (by omega)
        obtain ⟨g9, q9, c9, h25, hgb, hos⟩ : ∃ g9 q9 c9, a2.eval (.tmp 25) = .slice (some ⟨g9, 0, none⟩) 1 1 ∧ w7.heap[g9]? = some (.cells #[.string a, .slice q9 b.length c9] 35 (0, 0)) ∧ OwnS w7 (w.heap.size + 3) (.slice q9 b.length c9) b := hv 9 (by omega)
        have ea : a2 = { tmps := #[.agg #[.slice (some ⟨g, o, none⟩) n cap, .bool rep], .pointer (some ⟨w.heap.size, 0, none⟩), .pointer (some ⟨w.heap.size + 1, 0, none⟩), .pointer (some ⟨w.heap.size + 1 + 1, 0, none⟩), undef, .pointer (some ⟨wr.heap.size, 0, none⟩), .pointer (some ⟨w.heap.size, 1, none⟩), .bool rep, .agg #[.slice none 0 0, .bool rep], .pointer (some ⟨w.heap.size, 0, none⟩), .slice (some ⟨g, o, none⟩) n cap, .int .i64 n, .int .i64 k, .bool true, .pointer (some ⟨g, o + k * 2, none⟩), .agg #[.string a, .slice q2 b.length c2], .pointer (some ⟨w.heap.size + 1 + 1, 0, none⟩), .slice q rs.length c, .pointer (some ⟨wr.heap.size, 0, none⟩), .string a, .slice (some ⟨B, 0, none⟩) 0 0, .pointer (some ⟨wr.heap.size, 1, none⟩), .slice q2 b.length c2, .slice q7 b.length c7, .agg #[.string a, .slice q8 b.length c8], .slice (some ⟨g9, 0, none⟩) 1 1, u26, u27, u28, undef], defers := [] } := (frame_act hF (fun i => ([.pointer (some ⟨w.heap.size + 1 + 1, 0, none⟩), .slice q rs.length c, .pointer (some ⟨wr.heap.size, 0, none⟩), .string a, .slice (some ⟨B, 0, none⟩) 0 0, .pointer (some ⟨wr.heap.size, 1, none⟩), .slice q2 b.length c2, .slice q7 b.length c7, .agg #[.string a, .slice q8 b.length c8], .slice (some ⟨g9, 0, none⟩) 1 1] : List Value).getD i undef) (by
          intro i hi
          have hcase : i = 0 ∨ i = 1 ∨ i = 2 ∨ i = 3 ∨ i = 4 ∨ i = 5 ∨ i = 6 ∨ i = 7 ∨ i = 8 ∨ i = 9 := by omega
          rcases hcase with rfl | rfl | rfl | rfl | rfl | rfl | rfl | rfl | rfl | rfl
          · exact hv 0 (by omega)
          · exact hv 1 (by omega)
          · exact hv 2 (by omega)
          · exact hv 3 (by omega)
          · exact h20
          · exact hv 5 (by omega)
          · exact hv 6 (by omega)
          · exact h23
          · exact h24
          · exact h25)).trans (by kernel_rfl)
        have HD7 := Lib.hid (HDW.out.to hg7)
        have H37 := Lib.hid (H3W.out.to hg7)
        have HG7 := Lib.hid hg7
        have hs7 := hg7.size
        have HOS := Lib.hid hos
        obtain ⟨i0, hi0, hz0, hz1, hz2⟩ := info_parts info35f
        clear hv hF h20 h23 h24 h25 hos hg7
        subst ea
        refine opsIn_cons (o := _) rfl rfl ?_
        refine oper_append_in (.tmp 17) (.tmp 25) 23 rfl (w.heap.size + 3) 35 i0 (.agg #[.string ⟨#[]⟩, .slice none 0 0]) 2 40 Tryz.underlying23 hi0 hz0 hz1 hz2 rfl (by decide) (.slice q rs.length c) rs.length (encR rs) rfl HD7.out.row ⟨g9, 0, none⟩ 1 1 [.string a, .slice q9 b.length c9] rfl rfl ?hcell ?hone (by unfold maxLen; omega) (by omega) (by omega) ?hK
        case hcell =>
          intro j z hj
          match j, hj with
          | 0, hj => simp at hj; subst hj; exact cell_of_row _ _ 0 _ _ _ hgb
          | 1, hj => simp at hj; subst hj; exact cell_of_row _ _ 1 _ _ _ hgb
          | j + 2, hj => simp at hj
        case hone => intro z hz; simp at hz; rcases hz with rfl | rfl <;> rfl
        case hK =>
          intro v6 w8 hown hgr
          obtain ⟨p1, p2, p3, p4, p5, p6, p7⟩ := push_all (n := w.heap.size) (b := w.heap.size + 2) H37.out HD7.out HOS.out hgr hown (by omega) (by omega) (by omega)
          have hbl : Below (w.heap.size + 2) w7 (w8.setCell ⟨w.heap.size + 2, 0, none⟩ v6) := by
            refine ((Below.refl (w.heap.size + 2) w7).grown hgr (by omega) fun j ej => ?_).setCell (p := ⟨w.heap.size + 2, 0, none⟩) (Nat.le_refl _) v6
            have := (HD7.out.row.lt j ej).1
            omega
          obtain ⟨q6, c6, rfl⟩ := own_any hown
          have HP := Lib.hid (And.intro p3 (And.intro p4 hbl))
          clear p3 p4 p5 p6 p7 hbl hown hgr
          refine opsIn_cons (o := _) rfl rfl ?_
          unfold Oper.wpIn
          refine ⟨fun _ _ => trivial, ?_⟩
          rw [Oper.semAt_plain Fence.wide _ _ (by intro c hc'; cases hc')]
          simp [execOp, Act.eval, Act.put]
          simp [go_sem, Oper.uponIn]
          refine opsIn_cons (o := _) rfl rfl ?_
          unfold Oper.wpIn
          refine ⟨fun _ _ => trivial, ?_⟩
          rw [Oper.semAt_plain Fence.wide _ _ (by intro c hc'; cases hc')]
          simp [execOp, Act.eval, Act.put]
          simp [go_sem, p1, p2, Oper.uponIn]
          show Exit.inBlock 1 (Exit.then _ _) .normal { tmps := #[.agg #[.slice (some ⟨g, o, none⟩) n cap, .bool rep], .pointer (some ⟨w.heap.size, 0, none⟩), .pointer (some ⟨w.heap.size + 1, 0, none⟩), .pointer (some ⟨w.heap.size + 1 + 1, 0, none⟩), undef, .pointer (some ⟨wr.heap.size, 0, none⟩), .pointer (some ⟨w.heap.size, 1, none⟩), .bool rep, .agg #[.slice none 0 0, .bool rep], .pointer (some ⟨w.heap.size, 0, none⟩), .slice (some ⟨g, o, none⟩) n cap, .int .i64 n, .int .i64 k, .bool true, .pointer (some ⟨g, o + k * 2, none⟩), .agg #[.string a, .slice q2 b.length c2], .pointer (some ⟨w.heap.size + 1 + 1, 0, none⟩), .slice q rs.length c, .pointer (some ⟨wr.heap.size, 0, none⟩), .string a, .slice (some ⟨B, 0, none⟩) 0 0, .pointer (some ⟨wr.heap.size, 1, none⟩), .slice q2 b.length c2, .slice q7 b.length c7, .agg #[.string a, .slice q8 b.length c8], .slice (some ⟨g9, 0, none⟩) 1 1, .slice q6 (rs.length + 1) c6, .pointer (some ⟨w.heap.size + 1 + 1, 0, none⟩), u28, undef], defers := [] } (w8.setCell ⟨w.heap.size + 2, 0, none⟩ (.slice q6 (rs.length + 1) c6))
          clear p1 p2 hgb
          obtain ⟨hA, hO, hb7⟩ := HP.out
          have HBN := Lib.hid (show Below (w.heap.size + 2) X (w8.setCell ⟨w.heap.size + 2, 0, none⟩ (.slice q6 (rs.length + 1) c6)) from
            HW.out.trans (((HBW1.out.trans (HG7.out.mono (by omega))).mono (by omega)).trans hb7))
          have HON := Lib.hid (And.intro hA hO)
          clear HP hA hO hb7
          generalize w8.setCell ⟨w.heap.size + 2, 0, none⟩ (.slice q6 (rs.length + 1) c6) = w9 at *
          go_wp2_with fail
          go_roundw
          case rel => exact ⟨k + 1, by omega, by go_num, HBN, Lib.hid ⟨_, _, HON.out.1, HON.out.2, by rw [HTK.out, List.map_append, HM.out]; rfl⟩⟩
          case measure => simp [intOf]; omega
    · have hkn : k = n := by omega
      obtain ⟨v', rs, ho3, hoD, hmap⟩ := HO.out
      obtain ⟨q, c, rfl⟩ : ∃ q c, v' = .slice q rs.length c := own_any hoD.row
      rw [List.take_of_length_le (by rw [HN.out]; omega)] at hmap
      have hrn : rs.length = n := by have := congrArg List.length hmap; rw [List.length_map, HN.out] at this; exact this
      rw [hrn] at ho3 hoD
      have h2r : Has wr (w.heap.size + 1) (.cells #[.slice none 0 0, .bool false] 25) := (HW.out.block (w.heap.size + 1) (by omega)).trans H2.out
      have z0 := h2r.cell 0 rfl
      have z1 := h2r.cell 1 rfl
      have f0 := h2r.free 0
      have f1 := h2r.free 1
      have y0 := ho3.cell 0 rfl
      have y1 := ho3.cell 1 rfl
      have HF := Lib.hid (And.intro h2r (And.intro hoD hmap))
      clear h2r ho3 hoD hmap HO hrn hkn
      go_wp2_with fail
      obtain ⟨h2r, hoD, hmap⟩ := HF.out
      have hR : Has ((wr.setCell ⟨w.heap.size + 1, 0, none⟩ (.slice q n c)).setCell ⟨w.heap.size + 1, 1, none⟩ (.bool rep)) (w.heap.size + 1) (.cells #[.slice q n c, .bool rep] 25) := (h2r.set 0 (.slice q n c)).set 1 (.bool rep)
      have hO2 : ∀ (W : World) (p : Addr) (u : Value), p.block < w.heap.size + 3 → OwnD W (w.heap.size + 3) (.slice q n c) rs → OwnD (W.setCell p u) (w.heap.size + 3) (.slice q n c) rs := fun W p u hp h => ⟨own_set_under h.row hp u, fun r hr => own_set_under (h.vals r hr) hp u⟩
      refine bodyPost_ret (ret25 (p := 2) rfl _ _ (w.heap.size + 1) _ rfl hR rfl) rfl ⟨⟨q, c, rs, rfl, ?_, hmap⟩, ?_⟩
      · have h := hO2 _ ⟨w.heap.size + 1, 1, none⟩ (.bool rep) (show w.heap.size + 1 < w.heap.size + 3 by omega) (hO2 wr ⟨w.heap.size + 1, 0, none⟩ (.slice q n c) (show w.heap.size + 1 < w.heap.size + 3 by omega) hoD)
        exact ⟨own_base h.row (by omega), fun r hr => own_base (h.vals r hr) (by omega)⟩
      · exact (HBW.out.setCell (p := ⟨w.heap.size + 1, 0, none⟩) (show w.heap.size ≤ w.heap.size + 1 by omega) _).setCell (p := ⟨w.heap.size + 1, 1, none⟩) (show w.heap.size ≤ w.heap.size + 1 by omega) _
end Go.Proofs.YtempmmkdppelaaaGreatDoor
