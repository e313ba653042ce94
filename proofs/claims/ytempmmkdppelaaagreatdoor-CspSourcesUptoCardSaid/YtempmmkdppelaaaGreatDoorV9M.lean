/-
  csp's and the document's Sources, the document's SameSources.
-/
import Derived.Test.YtempmmkdppelaaaGreatDoorV8M
import Derived.Test.YtempmmkdppelaaaGreatDoorR9M
namespace Go.Proofs.YtempmmkdppelaaaGreatDoor
open Go.RowKit Go.Shelf
def encSrc (l : List Src) : List Value := l.flatMap fun x => x.cs.toList
theorem encSrc_len (l : List Src) : (encSrc l).length = l.length * 8 := by
  unfold encSrc
  induction l with
  | nil => rfl
  | cons x l ih => rw [List.flatMap_cons, List.length_append, ih, List.length_cons]; show 8 + _ = _; omega
theorem encSrc_at (l : List Src) {k : Nat} {x : Src} (hk : l[k]? = some x) (j : Nat) (hj : j < 8) : (encSrc l)[k * 8 + j]? = x.cs.toList[j]? := by
  have hkl : k < l.length := (List.getElem?_eq_some_iff.1 hk).1
  have e : encSrc l = encSrc (l.take k) ++ (x.cs.toList ++ encSrc (l.drop (k + 1))) := by
    conv => lhs; rw [← List.take_append_drop k l, List.drop_eq_getElem_cons hkl]
    unfold encSrc
    rw [List.flatMap_append, List.flatMap_cons]
    have : l[k] = x := (List.getElem?_eq_some_iff.1 hk).2
    rw [this]
  have hl : (encSrc (l.take k)).length = k * 8 := by rw [encSrc_len, List.length_take_of_le (by omega)]
  rw [e, List.getElem?_append_right (by omega), hl, Nat.add_sub_cancel_left, List.getElem?_append_left hj]
/-- source expressions, of the call's own -/
def OwnSrc (W : World) (D : Nat) (v : Value) (l : List Src) : Prop := W.ownsRow D 46 8 v l.length (encSrc l)
def okSrc (s : ByteArray) : List Src := match sourceP s with | .ok x => [x] | .error _ => []
/-- what Sources answers -/
def sourcesP (l : List ByteArray) : List Src := l.flatMap okSrc
theorem sources_more {l : List ByteArray} {k : Nat} (hk : k < l.length) : sourcesP (l.take (k + 1)) = sourcesP (l.take k) ++ okSrc l[k] := by
  rw [List.take_succ_eq_append_getElem hk]
  unfold sourcesP
  rw [List.flatMap_append, List.flatMap_cons]
  simp
theorem sources_len (l : List ByteArray) : (sourcesP l).length ≤ l.length := by
  unfold sourcesP
  induction l with
  | nil => simp
  | cons s l ih =>
    rw [List.flatMap_cons, List.length_append, List.length_cons]
    have : (okSrc s).length ≤ 1 := by unfold okSrc; split <;> simp
    omega
theorem source_err {s : ByteArray} {c : Nat} (h : sourceP s = .error c) : c = 4 ∨ c = 20 := by
  unfold sourceP at h
  split at h
  · cases h; exact .inl rfl
  · unfold srcE at h
    split at h
    · cases h; exact .inr rfl
    · cases h
def SsRet (l : List Src) (w : World) (e : Ending) (w' : World) : Prop := (∃ v, e = .returned v ∧ OwnSrc w' w.heap.size v l) ∧ Below w.heap.size w w'
set_option maxHeartbeats 4000000 in
set_option maxRecDepth 100000 in
theorem sources_is (lv : Value) (l : List ByteArray) (hm : l.length ≤ 1048576) (hz : ∀ x ∈ l, x.size ≤ 1048576) (w : World) (hM : ML w) (hv : Strs w lv l) :
    Calls Tryz.prog 27 #[lv] w (SsRet (sourcesP l) w) := by
  have hv' := hv
  obtain ⟨p, cap, rfl, _⟩ := hv
  obtain ⟨n, hn⟩ : ∃ n, l.length = n := ⟨_, rfl⟩
  rw [hn] at hm hv' ⊢
  have HN := Lib.hid hn
  have HV := Lib.hid hv'
  have HZ := Lib.hid hz
  have HM := Lib.hid hM; clear hM
  obtain ⟨i0, hi0, hz0, hz1, hz2⟩ := info_parts info46
  clear hv' hn hz
  go_enter Tryz.func27, Tryz.ntmps27
  go_wp2_with fail
  go_loopw [3, 10] (fun ov i wr => ∃ (k : Nat) (ls : List Src), k ≤ n ∧ i = .int .i64 k ∧ ls.length ≤ n ∧ Hid (OwnSrc wr w.heap.size ov ls) ∧ Hid (sourcesP (l.take k) = ls) ∧ Hid (Below w.heap.size w wr)) (fun _ i _ => n - (intOf i).toNat)
  case atStart => exact ⟨0, [], by omega, rfl, Nat.zero_le _, Lib.hid (World.ownsRow_nil _ _ _ _), Lib.hid rfl, Lib.hid (Below.refl _ _)⟩
  case round =>
    obtain ⟨wo, hwo⟩ : ∃ wo, wo = wr := ⟨_, rfl⟩
    subst hwo
    obtain ⟨k, ls, hk, rfl, hls, HO, HF, HB⟩ := hrel
    have hszo := HB.out.size
    by_cases hlt : k < n
    · have hkl : k < l.length := by rw [HN.out]; exact hlt
      have i1 : (k : Int) < (n : Int) := by omega
      obtain ⟨p', c', e', hcells⟩ := HV.out.to HB.out
      rw [HN.out] at e'
      simp only [Value.slice.injEq] at e'
      obtain ⟨rfl, -, rfl⟩ := e'
      obtain ⟨g, o, rfl, hg, hx⟩ := hcells k l[k] (getT hkl)
      have hyz := HZ.out l[k] (List.getElem_mem hkl)
      have HT := Lib.hid (sources_more hkl)
      rw [HF.out] at HT
      have hln := sources_len (l.take (k + 1))
      rw [List.length_take, HN.out] at hln
      have HLN := Lib.hid hln
      clear hcells hln
      generalize l[k] = y at *
      have HRD := Lib.hid (source_is y (by omega) wo (HM.out.to HB.out))
      unfold okSrc at HT
      cases hsp : sourceP y with
      | error c =>
        have hc := source_err hsp
        have hc0 : ((c : Int) == 0) = false := by rcases hc with rfl | rfl <;> rfl
        have hc1 : ((c : Int) != 0) = true := by rcases hc with rfl | rfl <;> rfl
        rw [hsp] at HRD HT
        have HT := Lib.hid (HT.out.trans (List.append_nil ls))
        have HRD := Lib.hid (show Calls Tryz.prog 24 #[.string y] wo fun e w' => e = .returned (.tuple #[.agg #[.int .u8 0, .string ⟨#[]⟩, .string ⟨#[]⟩, .bool false, .int .i64 0, .bool false, .bool false, .string ⟨#[]⟩], .int .i64 c]) ∧ Below wo.heap.size wo w' from HRD.out)
        clear hsp hc
        go_wp2_with fail
        refine HRD.out.mono ?_
        rintro e w4 ⟨rfl, hb4⟩
        have HB4 := Lib.hid (HB.out.trans (hb4.mono hszo))
        have HO4 := Lib.hid (own_to HO.out hb4)
        clear hb4 HRD HO
        go_wp2_with fail
        go_roundw
        case rel => exact ⟨k + 1, ls, by omega, by go_num, hls, Lib.hid (own_to HO4.out (bnew w4 _)), HT, Lib.hid (HB4.out.trans ((bnew w4 _).mono HB4.out.size))⟩
        case measure => simp [intOf]; omega
      | ok x =>
        rw [hsp] at HRD HT
        have HRD := Lib.hid (show Calls Tryz.prog 24 #[.string y] wo fun e w' => e = .returned (.tuple #[.agg #[.int .u8 x.kind, .string x.text, .string x.scheme, .bool x.wild, .int .i64 x.port, .bool x.hasPort, .bool x.anyPort, .string x.path], .int .i64 0]) ∧ Below wo.heap.size wo w' from HRD.out)
        have HT := Lib.hid (show sourcesP (l.take (k + 1)) = ls ++ [x] from HT.out)
        have hln : ls.length + 1 ≤ n := by
          have := HLN.out
          rw [HT.out, List.length_append, List.length_singleton] at this; omega
        clear hsp
        go_wp2_with fail
        refine HRD.out.mono ?_
        rintro e w4 ⟨rfl, hb4⟩
        have HB4 := Lib.hid (HB.out.trans (hb4.mono hszo))
        have HO4 := Lib.hid (own_to HO.out hb4)
        obtain ⟨q3, c3, rfl⟩ := own_any HO.out
        obtain ⟨X5, hX5⟩ : ∃ X5, w4.alloc (.cells #[.int .u8 x.kind, .string x.text, .string x.scheme, .bool x.wild, .int .i64 x.port, .bool x.hasPort, .bool x.anyPort, .string x.path] 46) = X5 := ⟨_, rfl⟩
        have hb5 : Below w4.heap.size w4 X5 := hX5 ▸ bnew w4 _
        have h5 : Has X5 w4.heap.size (.cells #[.int .u8 x.kind, .string x.text, .string x.scheme, .bool x.wild, .int .i64 x.port, .bool x.hasPort, .bool x.anyPort, .string x.path] 46) := hX5 ▸ Has.new w4 _
        obtain ⟨Z, hZ⟩ : ∃ Z, X5.alloc (.cells #[.int .u8 x.kind, .string x.text, .string x.scheme, .bool x.wild, .int .i64 x.port, .bool x.hasPort, .bool x.anyPort, .string x.path] 46) = Z := ⟨_, rfl⟩
        have hbZ : Below X5.heap.size X5 Z := hZ ▸ bnew X5 _
        have hnZ : Has Z X5.heap.size (.cells #[.int .u8 x.kind, .string x.text, .string x.scheme, .bool x.wild, .int .i64 x.port, .bool x.hasPort, .bool x.anyPort, .string x.path] 46) := hZ ▸ Has.new X5 _
        have hbz : Below w4.heap.size w4 Z := hb5.trans (hbZ.mono hb5.size)
        have HOZ := Lib.hid (own_to HO4.out hbz)
        have HBZ := Lib.hid (show Below w.heap.size w Z from HB4.out.trans (hbz.mono HB4.out.size))
        have hsZ := HBZ.out.size
        have z0 : X5.cell? ⟨w4.heap.size, 0, none⟩ = some (.int .u8 x.kind) := h5.cell 0 rfl
        have z1 : X5.cell? ⟨w4.heap.size, 1, none⟩ = some (.string x.text) := h5.cell 1 rfl
        have z2 : X5.cell? ⟨w4.heap.size, 2, none⟩ = some (.string x.scheme) := h5.cell 2 rfl
        have z3 : X5.cell? ⟨w4.heap.size, 3, none⟩ = some (.bool x.wild) := h5.cell 3 rfl
        have z4 : X5.cell? ⟨w4.heap.size, 4, none⟩ = some (.int .i64 x.port) := h5.cell 4 rfl
        have z5 : X5.cell? ⟨w4.heap.size, 5, none⟩ = some (.bool x.hasPort) := h5.cell 5 rfl
        have z6 : X5.cell? ⟨w4.heap.size, 6, none⟩ = some (.bool x.anyPort) := h5.cell 6 rfl
        have z7 : X5.cell? ⟨w4.heap.size, 7, none⟩ = some (.string x.path) := h5.cell 7 rfl
        have m0 : Z.cell? ⟨X5.heap.size, 0, none⟩ = some (.int .u8 x.kind) := hnZ.cell 0 rfl
        have m1 : Z.cell? ⟨X5.heap.size, 1, none⟩ = some (.string x.text) := hnZ.cell 1 rfl
        have m2 : Z.cell? ⟨X5.heap.size, 2, none⟩ = some (.string x.scheme) := hnZ.cell 2 rfl
        have m3 : Z.cell? ⟨X5.heap.size, 3, none⟩ = some (.bool x.wild) := hnZ.cell 3 rfl
        have m4 : Z.cell? ⟨X5.heap.size, 4, none⟩ = some (.int .i64 x.port) := hnZ.cell 4 rfl
        have m5 : Z.cell? ⟨X5.heap.size, 5, none⟩ = some (.bool x.hasPort) := hnZ.cell 5 rfl
        have m6 : Z.cell? ⟨X5.heap.size, 6, none⟩ = some (.bool x.anyPort) := hnZ.cell 6 rfl
        have m7 : Z.cell? ⟨X5.heap.size, 7, none⟩ = some (.string x.path) := hnZ.cell 7 rfl
        clear hb4 HRD HO HO4 hb5 h5 hbZ hnZ hbz
        go_wp2_with (at_builtin; refine wpList_append_own _ rfl (.tmp 21) (.tmp 23) 50 rfl w.heap.size 46 i0 (.agg #[.int .u8 0, .string ⟨#[]⟩, .string ⟨#[]⟩, .bool false, .int .i64 0, .bool false, .bool false, .string ⟨#[]⟩]) 8 80 Tryz.underlying50 hi0 hz0 hz1 hz2 rfl (by decide) _ _ _ rfl HOZ.out ⟨X5.heap.size, 0, none⟩ 1 1 [.int .u8 x.kind, .string x.text, .string x.scheme, .bool x.wild, .int .i64 x.port, .bool x.hasPort, .bool x.anyPort, .string x.path] rfl rfl ?c1 ?c2 ?c3 ?c4 ?c5 ?_)
        case c1 =>
          intro j z hj
          match j, hj with
          | 0, hj => simp at hj; subst hj; exact m0
          | 1, hj => simp at hj; subst hj; exact m1
          | 2, hj => simp at hj; subst hj; exact m2
          | 3, hj => simp at hj; subst hj; exact m3
          | 4, hj => simp at hj; subst hj; exact m4
          | 5, hj => simp at hj; subst hj; exact m5
          | 6, hj => simp at hj; subst hj; exact m6
          | 7, hj => simp at hj; subst hj; exact m7
          | j + 8, hj => simp at hj
        case c2 => intro z hz; simp at hz; rcases hz with rfl | rfl | rfl | rfl | rfl | rfl | rfl | rfl <;> rfl
        case c3 => unfold maxLen; omega
        case c4 => omega
        case c5 => omega
        intro v' w8 hown hgr _
        have HN5 := Lib.hid (show OwnSrc w8 w.heap.size v' (ls ++ [x]) from by
          unfold OwnSrc
          rw [List.length_append, List.length_singleton, show encSrc (ls ++ [x]) = encSrc ls ++ [.int .u8 x.kind, .string x.text, .string x.scheme, .bool x.wild, .int .i64 x.port, .bool x.hasPort, .bool x.anyPort, .string x.path] from by unfold encSrc; rw [List.flatMap_append]; rfl]
          exact hown)
        have HN7 := Lib.hid (HBZ.out.grown hgr hsZ fun j ej => (HOZ.out.lt j ej).1)
        clear hown hgr z0 z1 z2 z3 z4 z5 z6 z7 m0 m1 m2 m3 m4 m5 m6 m7
        go_wp2_with fail
        go_roundw
        case rel => exact ⟨k + 1, ls ++ [x], by omega, by go_num, by rw [List.length_append, List.length_singleton]; exact hln, HN5, HT, HN7⟩
        case measure => simp [intOf]; omega
    · have i1 : ¬ (k : Int) < (n : Int) := by omega
      have HE := Lib.hid (show sourcesP l = ls from by
        have h := HF.out
        rw [List.take_of_length_le (by have := HN.out; omega)] at h; exact h)
      go_wp2_with fail
      go_ret
      unfold SsRet
      rw [HE.out]
      exact ⟨⟨_, rfl, HO.out⟩, HB.out⟩
set_option maxHeartbeats 4000000 in
set_option maxRecDepth 100000 in
theorem rsources_is (lv : Value) (l : List ByteArray) (hm : l.length ≤ 1048576) (hz : ∀ x ∈ l, x.size ≤ 1048576) (w : World) (hv : Strs w lv l) :
    Calls Tryz.prog 28 #[lv] w (SsRet (sourcesP l) w) := by
  have hv' := hv
  obtain ⟨p, cap, rfl, _⟩ := hv
  obtain ⟨n, hn⟩ : ∃ n, l.length = n := ⟨_, rfl⟩
  rw [hn] at hm hv' ⊢
  have HN := Lib.hid hn
  have HV := Lib.hid hv'
  have HZ := Lib.hid hz
  skip
  obtain ⟨i0, hi0, hz0, hz1, hz2⟩ := info_parts info46
  clear hv' hn hz
  go_enter Tryz.func28, Tryz.ntmps28
  go_wp2_with fail
  go_loopw [3, 10] (fun ov i wr => ∃ (k : Nat) (ls : List Src), k ≤ n ∧ i = .int .i64 k ∧ ls.length ≤ n ∧ Hid (OwnSrc wr w.heap.size ov ls) ∧ Hid (sourcesP (l.take k) = ls) ∧ Hid (Below w.heap.size w wr)) (fun _ i _ => n - (intOf i).toNat)
  case atStart => exact ⟨0, [], by omega, rfl, Nat.zero_le _, Lib.hid (World.ownsRow_nil _ _ _ _), Lib.hid rfl, Lib.hid (Below.refl _ _)⟩
  case round =>
    obtain ⟨wo, hwo⟩ : ∃ wo, wo = wr := ⟨_, rfl⟩
    subst hwo
    obtain ⟨k, ls, hk, rfl, hls, HO, HF, HB⟩ := hrel
    have hszo := HB.out.size
    by_cases hlt : k < n
    · have hkl : k < l.length := by rw [HN.out]; exact hlt
      have i1 : (k : Int) < (n : Int) := by omega
      obtain ⟨p', c', e', hcells⟩ := HV.out.to HB.out
      rw [HN.out] at e'
      simp only [Value.slice.injEq] at e'
      obtain ⟨rfl, -, rfl⟩ := e'
      obtain ⟨g, o, rfl, hg, hx⟩ := hcells k l[k] (getT hkl)
      have hyz := HZ.out l[k] (List.getElem_mem hkl)
      have HT := Lib.hid (sources_more hkl)
      rw [HF.out] at HT
      have hln := sources_len (l.take (k + 1))
      rw [List.length_take, HN.out] at hln
      have HLN := Lib.hid hln
      clear hcells hln
      generalize l[k] = y at *
      have HRD := Lib.hid (rsource_is y (by omega) wo)
      unfold okSrc at HT
      cases hsp : sourceP y with
      | error c =>
        have hc := source_err hsp
        have hc0 : ((c : Int) == 0) = false := by rcases hc with rfl | rfl <;> rfl
        have hc1 : ((c : Int) != 0) = true := by rcases hc with rfl | rfl <;> rfl
        rw [hsp] at HRD HT
        have HT := Lib.hid (HT.out.trans (List.append_nil ls))
        have HRD := Lib.hid (show Calls Tryz.prog 25 #[.string y] wo fun e w' => e = .returned (.tuple #[.agg #[.int .u8 0, .string ⟨#[]⟩, .string ⟨#[]⟩, .bool false, .int .i64 0, .bool false, .bool false, .string ⟨#[]⟩], .int .i64 c]) ∧ Below wo.heap.size wo w' from HRD.out)
        clear hsp hc
        go_wp2_with fail
        refine HRD.out.mono ?_
        rintro e w4 ⟨rfl, hb4⟩
        have HB4 := Lib.hid (HB.out.trans (hb4.mono hszo))
        have HO4 := Lib.hid (own_to HO.out hb4)
        clear hb4 HRD HO
        go_wp2_with fail
        go_roundw
        case rel => exact ⟨k + 1, ls, by omega, by go_num, hls, Lib.hid (own_to HO4.out (bnew w4 _)), HT, Lib.hid (HB4.out.trans ((bnew w4 _).mono HB4.out.size))⟩
        case measure => simp [intOf]; omega
      | ok x =>
        rw [hsp] at HRD HT
        have HRD := Lib.hid (show Calls Tryz.prog 25 #[.string y] wo fun e w' => e = .returned (.tuple #[.agg #[.int .u8 x.kind, .string x.text, .string x.scheme, .bool x.wild, .int .i64 x.port, .bool x.hasPort, .bool x.anyPort, .string x.path], .int .i64 0]) ∧ Below wo.heap.size wo w' from HRD.out)
        have HT := Lib.hid (show sourcesP (l.take (k + 1)) = ls ++ [x] from HT.out)
        have hln : ls.length + 1 ≤ n := by
          have := HLN.out
          rw [HT.out, List.length_append, List.length_singleton] at this; omega
        clear hsp
        go_wp2_with fail
        refine HRD.out.mono ?_
        rintro e w4 ⟨rfl, hb4⟩
        have HB4 := Lib.hid (HB.out.trans (hb4.mono hszo))
        have HO4 := Lib.hid (own_to HO.out hb4)
        obtain ⟨q3, c3, rfl⟩ := own_any HO.out
        obtain ⟨X5, hX5⟩ : ∃ X5, w4.alloc (.cells #[.int .u8 x.kind, .string x.text, .string x.scheme, .bool x.wild, .int .i64 x.port, .bool x.hasPort, .bool x.anyPort, .string x.path] 46) = X5 := ⟨_, rfl⟩
        have hb5 : Below w4.heap.size w4 X5 := hX5 ▸ bnew w4 _
        have h5 : Has X5 w4.heap.size (.cells #[.int .u8 x.kind, .string x.text, .string x.scheme, .bool x.wild, .int .i64 x.port, .bool x.hasPort, .bool x.anyPort, .string x.path] 46) := hX5 ▸ Has.new w4 _
        obtain ⟨Z, hZ⟩ : ∃ Z, X5.alloc (.cells #[.int .u8 x.kind, .string x.text, .string x.scheme, .bool x.wild, .int .i64 x.port, .bool x.hasPort, .bool x.anyPort, .string x.path] 46) = Z := ⟨_, rfl⟩
        have hbZ : Below X5.heap.size X5 Z := hZ ▸ bnew X5 _
        have hnZ : Has Z X5.heap.size (.cells #[.int .u8 x.kind, .string x.text, .string x.scheme, .bool x.wild, .int .i64 x.port, .bool x.hasPort, .bool x.anyPort, .string x.path] 46) := hZ ▸ Has.new X5 _
        have hbz : Below w4.heap.size w4 Z := hb5.trans (hbZ.mono hb5.size)
        have HOZ := Lib.hid (own_to HO4.out hbz)
        have HBZ := Lib.hid (show Below w.heap.size w Z from HB4.out.trans (hbz.mono HB4.out.size))
        have hsZ := HBZ.out.size
        have z0 : X5.cell? ⟨w4.heap.size, 0, none⟩ = some (.int .u8 x.kind) := h5.cell 0 rfl
        have z1 : X5.cell? ⟨w4.heap.size, 1, none⟩ = some (.string x.text) := h5.cell 1 rfl
        have z2 : X5.cell? ⟨w4.heap.size, 2, none⟩ = some (.string x.scheme) := h5.cell 2 rfl
        have z3 : X5.cell? ⟨w4.heap.size, 3, none⟩ = some (.bool x.wild) := h5.cell 3 rfl
        have z4 : X5.cell? ⟨w4.heap.size, 4, none⟩ = some (.int .i64 x.port) := h5.cell 4 rfl
        have z5 : X5.cell? ⟨w4.heap.size, 5, none⟩ = some (.bool x.hasPort) := h5.cell 5 rfl
        have z6 : X5.cell? ⟨w4.heap.size, 6, none⟩ = some (.bool x.anyPort) := h5.cell 6 rfl
        have z7 : X5.cell? ⟨w4.heap.size, 7, none⟩ = some (.string x.path) := h5.cell 7 rfl
        have m0 : Z.cell? ⟨X5.heap.size, 0, none⟩ = some (.int .u8 x.kind) := hnZ.cell 0 rfl
        have m1 : Z.cell? ⟨X5.heap.size, 1, none⟩ = some (.string x.text) := hnZ.cell 1 rfl
        have m2 : Z.cell? ⟨X5.heap.size, 2, none⟩ = some (.string x.scheme) := hnZ.cell 2 rfl
        have m3 : Z.cell? ⟨X5.heap.size, 3, none⟩ = some (.bool x.wild) := hnZ.cell 3 rfl
        have m4 : Z.cell? ⟨X5.heap.size, 4, none⟩ = some (.int .i64 x.port) := hnZ.cell 4 rfl
        have m5 : Z.cell? ⟨X5.heap.size, 5, none⟩ = some (.bool x.hasPort) := hnZ.cell 5 rfl
        have m6 : Z.cell? ⟨X5.heap.size, 6, none⟩ = some (.bool x.anyPort) := hnZ.cell 6 rfl
        have m7 : Z.cell? ⟨X5.heap.size, 7, none⟩ = some (.string x.path) := hnZ.cell 7 rfl
        clear hb4 HRD HO HO4 hb5 h5 hbZ hnZ hbz
        go_wp2_with (at_builtin; refine wpList_append_own _ rfl (.tmp 21) (.tmp 23) 50 rfl w.heap.size 46 i0 (.agg #[.int .u8 0, .string ⟨#[]⟩, .string ⟨#[]⟩, .bool false, .int .i64 0, .bool false, .bool false, .string ⟨#[]⟩]) 8 80 Tryz.underlying50 hi0 hz0 hz1 hz2 rfl (by decide) _ _ _ rfl HOZ.out ⟨X5.heap.size, 0, none⟩ 1 1 [.int .u8 x.kind, .string x.text, .string x.scheme, .bool x.wild, .int .i64 x.port, .bool x.hasPort, .bool x.anyPort, .string x.path] rfl rfl ?c1 ?c2 ?c3 ?c4 ?c5 ?_)
        case c1 =>
          intro j z hj
          match j, hj with
          | 0, hj => simp at hj; subst hj; exact m0
          | 1, hj => simp at hj; subst hj; exact m1
          | 2, hj => simp at hj; subst hj; exact m2
          | 3, hj => simp at hj; subst hj; exact m3
          | 4, hj => simp at hj; subst hj; exact m4
          | 5, hj => simp at hj; subst hj; exact m5
          | 6, hj => simp at hj; subst hj; exact m6
          | 7, hj => simp at hj; subst hj; exact m7
          | j + 8, hj => simp at hj
        case c2 => intro z hz; simp at hz; rcases hz with rfl | rfl | rfl | rfl | rfl | rfl | rfl | rfl <;> rfl
        case c3 => unfold maxLen; omega
        case c4 => omega
        case c5 => omega
        intro v' w8 hown hgr _
        have HN5 := Lib.hid (show OwnSrc w8 w.heap.size v' (ls ++ [x]) from by
          unfold OwnSrc
          rw [List.length_append, List.length_singleton, show encSrc (ls ++ [x]) = encSrc ls ++ [.int .u8 x.kind, .string x.text, .string x.scheme, .bool x.wild, .int .i64 x.port, .bool x.hasPort, .bool x.anyPort, .string x.path] from by unfold encSrc; rw [List.flatMap_append]; rfl]
          exact hown)
        have HN7 := Lib.hid (HBZ.out.grown hgr hsZ fun j ej => (HOZ.out.lt j ej).1)
        clear hown hgr z0 z1 z2 z3 z4 z5 z6 z7 m0 m1 m2 m3 m4 m5 m6 m7
        go_wp2_with fail
        go_roundw
        case rel => exact ⟨k + 1, ls ++ [x], by omega, by go_num, by rw [List.length_append, List.length_singleton]; exact hln, HN5, HT, HN7⟩
        case measure => simp [intOf]; omega
    · have i1 : ¬ (k : Int) < (n : Int) := by omega
      have HE := Lib.hid (show sourcesP l = ls from by
        have h := HF.out
        rw [List.take_of_length_le (by have := HN.out; omega)] at h; exact h)
      go_wp2_with fail
      go_ret
      unfold SsRet
      rw [HE.out]
      exact ⟨⟨_, rfl, HO.out⟩, HB.out⟩
set_option maxHeartbeats 4000000 in
set_option maxRecDepth 100000 in
theorem sameSources_is (va vb : Value) (l : List Src) (D E : Nat) (hl : l.length ≤ 1048576) (w : World) (ha : OwnSrc w D va l) (hb : OwnSrc w E vb l) :
    Calls Tryz.prog 26 #[va, vb] w fun e w' => e = .returned (.bool true) ∧ Below w.heap.size w w' := by
  obtain ⟨pa, ca, rfl⟩ := own_any ha
  obtain ⟨pb, cb, rfl⟩ := own_any hb
  obtain ⟨n, hn⟩ : ∃ n, l.length = n := ⟨_, rfl⟩
  have HA := Lib.hid ha
  have HB := Lib.hid hb
  have HN := Lib.hid hn
  rw [hn] at hl ⊢
  clear ha hb hn
  have g1 : ((n : Int) != (n : Int)) = false := by simp
  go_enter Tryz.func26, Tryz.ntmps26
  go_wp2_with fail
  go_loopw [13] (fun i wr => ∃ k : Nat, k ≤ n ∧ i = .int .i64 k ∧ Hid (Below w.heap.size w wr)) (fun i _ => n - (intOf i).toNat)
  case atStart => exact ⟨0, by omega, rfl, Lib.hid (Below.refl _ _)⟩
  case round =>
    obtain ⟨k, hk, rfl, HW⟩ := hrel
    by_cases hlt : k < n
    · have hkl : k < l.length := by rw [HN.out]; exact hlt
      have i1 : (k : Int) < (n : Int) := by omega
      have cells : ∀ {p : Option Addr} {c B : Nat}, OwnSrc w B (.slice p l.length c) l → ∃ g, p = some ⟨g, 0, none⟩ ∧ ∀ j z, j < 8 → l[k].cs.toList[j]? = some z → wr.cell? ⟨g, k * 8 + j, none⟩ = some z := by
        intro p c B h
        rcases h.2 with ⟨h1, h0⟩ | ⟨g, cap, cur, h1, hb, hgb, _⟩
        · have := HN.out; omega
        · simp only [Value.slice.injEq] at h1
          refine ⟨g, h1.1, fun j z hj hz => ?_⟩
          refine (HW.out.cell (p := ⟨g, k * 8 + j, none⟩) (Array.getElem?_eq_some_iff.1 hgb).1).trans ?_
          have hh := h
          unfold OwnSrc at hh
          rw [h1.1] at hh
          rw [hh.cellAt (k * 8 + j) (by have := HN.out; omega), encSrc_at l (getT hkl) j hj]
          exact hz
      obtain ⟨ga, rfl, hca⟩ := cells (c := ca) (B := D) HA.out
      obtain ⟨gb, rfl, hcb⟩ := cells (c := cb) (B := E) HB.out
      generalize l[k] = x at *
      have y0 : wr.cell? ⟨ga, k * 8, none⟩ = some (.int .u8 x.kind) := hca 0 _ (by omega) rfl
      have y1 : wr.cell? ⟨ga, k * 8 + 1, none⟩ = some (.string x.text) := hca 1 _ (by omega) rfl
      have y2 : wr.cell? ⟨ga, k * 8 + 2, none⟩ = some (.string x.scheme) := hca 2 _ (by omega) rfl
      have y3 : wr.cell? ⟨ga, k * 8 + 3, none⟩ = some (.bool x.wild) := hca 3 _ (by omega) rfl
      have y4 : wr.cell? ⟨ga, k * 8 + 4, none⟩ = some (.int .i64 x.port) := hca 4 _ (by omega) rfl
      have y5 : wr.cell? ⟨ga, k * 8 + 5, none⟩ = some (.bool x.hasPort) := hca 5 _ (by omega) rfl
      have y6 : wr.cell? ⟨ga, k * 8 + 6, none⟩ = some (.bool x.anyPort) := hca 6 _ (by omega) rfl
      have y7 : wr.cell? ⟨ga, k * 8 + 7, none⟩ = some (.string x.path) := hca 7 _ (by omega) rfl
      have u0 : wr.cell? ⟨gb, k * 8, none⟩ = some (.int .u8 x.kind) := hcb 0 _ (by omega) rfl
      have u1 : wr.cell? ⟨gb, k * 8 + 1, none⟩ = some (.string x.text) := hcb 1 _ (by omega) rfl
      have u2 : wr.cell? ⟨gb, k * 8 + 2, none⟩ = some (.string x.scheme) := hcb 2 _ (by omega) rfl
      have u3 : wr.cell? ⟨gb, k * 8 + 3, none⟩ = some (.bool x.wild) := hcb 3 _ (by omega) rfl
      have u4 : wr.cell? ⟨gb, k * 8 + 4, none⟩ = some (.int .i64 x.port) := hcb 4 _ (by omega) rfl
      have u5 : wr.cell? ⟨gb, k * 8 + 5, none⟩ = some (.bool x.hasPort) := hcb 5 _ (by omega) rfl
      have u6 : wr.cell? ⟨gb, k * 8 + 6, none⟩ = some (.bool x.anyPort) := hcb 6 _ (by omega) rfl
      have u7 : wr.cell? ⟨gb, k * 8 + 7, none⟩ = some (.string x.path) := hcb 7 _ (by omega) rfl
      clear hca hcb cells hkl
      go_wp2_with fail
      go_quiet (fail)
      go_wp2_with fail
      go_roundw
      case rel => exact ⟨k + 1, by omega, by go_num, Lib.hid (below_dn HW.out nq)⟩
      case measure => simp [intOf]; omega
    · have i1 : ¬ (k : Int) < (n : Int) := by omega
      go_wp2_with fail
      go_ret
      exact ⟨rfl, HW.out⟩
end Go.Proofs.YtempmmkdppelaaaGreatDoor
