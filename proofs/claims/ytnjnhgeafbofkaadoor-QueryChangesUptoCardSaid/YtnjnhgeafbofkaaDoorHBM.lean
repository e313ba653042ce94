/-
  The contract of the document's Put (bastionref11): putL.
-/
import Derived.Test.YtnjnhgeafbofkaaDoorWPM
namespace Go.Proofs.YtnjnhgeafbofkaaDoor
open Go.RowKit
def putR (nm va : ByteArray) (l : List Fd) : List Fd := if l.any (isN nm) then putL nm va l else l
theorem at_any {nm : ByteArray} {l : List Fd} (h : l.any (isN nm) = true) (x : Fd) : atN nm (l ++ [x]) = atN nm l ∧ atN nm l ≤ l.length := by
  refine ⟨?_, at_le nm l⟩
  unfold atN
  rw [List.findIdx?_append]
  cases hf : l.findIdx? (isN nm) with
  | some i => rfl
  | none =>
    rw [List.findIdx?_eq_none_iff] at hf
    obtain ⟨y, hy, h2⟩ := List.any_eq_true.1 h
    rw [hf y hy] at h2; cases h2
theorem at_none {nm : ByteArray} {l : List Fd} (h : l.any (isN nm) = false) : atN nm l = l.length := by
  unfold atN
  have : l.findIdx? (isN nm) = none := by
    rw [List.findIdx?_eq_none_iff]
    intro y hy
    cases hx : isN nm y with
    | false => rfl
    | true => rw [List.any_eq_true.2 ⟨y, hy, hx⟩] at h; cases h
  rw [this]; rfl
theorem putL_none {nm va : ByteArray} {l : List Fd} (h : l.any (isN nm) = false) : putL nm va l = l ++ [(nm, va)] := by
  unfold putL
  rw [at_none h, List.take_length, List.drop_length]
  simp [dropN]
theorem putR_any {nm va : ByteArray} {l : List Fd} (h : l.any (isN nm) = true) (x : Fd) : putR nm va (l ++ [x]) = putR nm va l ++ (if isN nm x then [] else [x]) := by
  obtain ⟨h1, h2⟩ := at_any h x
  unfold putR
  rw [if_pos h, if_pos (by rw [List.any_append, h]; rfl)]
  unfold putL
  rw [h1, List.take_append_of_le_length h2, List.drop_append_of_le_length h2]
  unfold dropN
  rw [List.filter_append, ← List.append_assoc]
  cases hx : isN nm x <;> simp [hx]
theorem putR_first {nm va : ByteArray} {l : List Fd} (h : l.any (isN nm) = false) (x : Fd) (hx : isN nm x = true) : putR nm va (l ++ [x]) = putR nm va l ++ [(nm, va)] := by
  have e : atN nm (l ++ [x]) = l.length := by
    unfold atN
    have : l.findIdx? (isN nm) = none := by
      rw [List.findIdx?_eq_none_iff]
      intro y hy
      cases hz : isN nm y with
      | false => rfl
      | true => rw [List.any_eq_true.2 ⟨y, hy, hz⟩] at h; cases h
    rw [List.findIdx?_append, this]
    simp [hx]
  have e1 : putR nm va (l ++ [x]) = putL nm va (l ++ [x]) := by
    unfold putR
    rw [if_pos (by rw [List.any_append, h]; simp [hx])]
  have e2 : putR nm va l = l := by
    unfold putR
    rw [if_neg (by rw [h]; simp)]
  rw [e1, e2]
  unfold putL
  rw [e, List.take_left, List.drop_left]
  simp [dropN, hx]
theorem putR_other {nm va : ByteArray} {l : List Fd} (h : l.any (isN nm) = false) (x : Fd) (hx : isN nm x = false) : putR nm va (l ++ [x]) = putR nm va l ++ [x] := by
  have e1 : putR nm va (l ++ [x]) = l ++ [x] := by
    unfold putR
    rw [if_neg (by rw [List.any_append, h]; simp [hx])]
  have e2 : putR nm va l = l := by
    unfold putR
    rw [if_neg (by rw [h]; simp)]
  rw [e1, e2]
theorem putR_len (nm va : ByteArray) (l : List Fd) : (putR nm va l).length ≤ l.length + 1 := by
  unfold putR
  split
  · exact put_len nm va l
  · omega
theorem putR_end (nm va : ByteArray) (l : List Fd) : putL nm va l = putR nm va l ++ (if l.any (isN nm) then [] else [(nm, va)]) := by
  unfold putR
  cases h : l.any (isN nm) with
  | true => simp
  | false => rw [putL_none h]; simp
set_option maxHeartbeats 4000000 in
set_option maxRecDepth 100000 in
theorem rput_is (v : Value) (l : List Fd) (nm va : ByteArray) (hm : (l.length + 2) * 32 ≤ 140737488355328) (w : World) (hv : Lst w v l) :
    Calls Tryd.prog 18 #[v, .string nm, .string va] w fun e w' => (∃ q c, e = .returned (.slice q (putL nm va l).length c) ∧ OwnF w' w.heap.size (.slice q (putL nm va l).length c) (putL nm va l)) ∧ Below w.heap.size w w' := by
  obtain ⟨i0, hi, hz0, hz1, hz2⟩ := info_parts Ks.infoField
  obtain ⟨p, cap, rfl, hA⟩ := hv
  have HA := Lib.hid hA
  clear hA
  go_enter Tryd.func18, Tryd.ntmps18
  go_wp2_with fail
  go_loopw [7, 8, 13] (fun s7 s8 i wr => ∃ (k : Nat) (b : Bool), k ≤ l.length ∧ i = .int .i64 k ∧ s8 = .bool b ∧ Hid ((l.take k).any (isN nm) = b) ∧ Hid (OwnF wr w.heap.size s7 (putR nm va (l.take k))) ∧ Hid (Below w.heap.size w wr)) (fun _ _ i _ => l.length - (intOf i).toNat)
  case atStart => exact ⟨0, false, by omega, rfl, rfl, Lib.hid rfl, Lib.hid (World.ownsRow_nil _ _ _ _), Lib.hid (Below.refl _ _)⟩
  case round =>
    obtain ⟨k, b, hk, rfl, rfl, HAN, HO, HB⟩ := hrel
    have hdl : (putR nm va (l.take k)).length ≤ k + 1 := by
      have := putR_len nm va (l.take k)
      rw [List.length_take_of_le (by omega)] at this
      exact this
    by_cases hlt : k < l.length
    · obtain ⟨g, o, rfl, hg, hx, hy⟩ := HA.out k l[k] (getF hlt)
      have hx2 := (HB.out.cell (p := ⟨g, o + k * 2, none⟩) hg).trans hx
      have hy2 := (HB.out.cell (p := ⟨g, o + k * 2 + 1, none⟩) hg).trans hy
      have i1 : (k : Int) < (l.length : Int) := by omega
      have HTK := Lib.hid (show l.take (k + 1) = l.take k ++ [l[k]] from List.take_succ_eq_append_getElem hlt)
      have HS1 := Lib.hid (fun (h : (l.take k).any (isN nm) = true) => putR_any (nm := nm) (va := va) (l := l.take k) h (l[k]'hlt))
      have HS2 := Lib.hid (fun (h : (l.take k).any (isN nm) = false) (h' : isN nm (l[k]'hlt) = true) => putR_first (nm := nm) (va := va) (l := l.take k) h (l[k]'hlt) h')
      have HS3 := Lib.hid (fun (h : (l.take k).any (isN nm) = false) (h' : isN nm (l[k]'hlt) = false) => putR_other (nm := nm) (va := va) (l := l.take k) h (l[k]'hlt) h')
      have HA2 := Lib.hid (show (l.take (k + 1)).any (isN nm) = (b || isN nm l[k]) by rw [HTK.out, List.any_append, HAN.out]; simp)
      rw [← HTK.out] at HS1 HS2 HS3
      rw [HAN.out] at HS1 HS2 HS3
      clear hx hy HTK
      generalize putR nm va (l.take k) = D at *
      generalize l[k] = f at *
      obtain ⟨a, c⟩ := f
      have hx3 : wr.cell? ⟨g, o + k * 2, none⟩ = some (.string a) := hx2
      have hy3 : wr.cell? ⟨g, o + k * 2 + 1, none⟩ = some (.string c) := hy2
      clear hx2 hy2
      have hsz := HB.out.size
      have HBn := Lib.hid (show Below w.heap.size w (wr.alloc (.cells #[.string a, .string c] 38)) from HB.out.alloc HB.out.size _)
      have HOn := Lib.hid (show OwnF (wr.alloc (.cells #[.string a, .string c] 38)) w.heap.size u7 D from World.ownsRow.alloc HO.out _)
      by_cases he : a.toList == nm.toList
      · have hx : isN nm (a, c) = true := he
        cases b with
        | true =>
          have HS := Lib.hid (HS1.out rfl)
          rw [hx, if_pos rfl, List.append_nil] at HS
          have HA3 := Lib.hid (show (l.take (k + 1)).any (isN nm) = true by rw [HA2.out]; rfl)
          clear hx HS1 HS2 HS3 HA2
          go_wp2
          go_roundw
          case rel => exact ⟨k + 1, true, by omega, by go_num, rfl, HA3, Lib.hid (by rw [HS.out]; exact HOn.out), HBn⟩
          case measure => simp [intOf]; omega
        | false =>
          have HS := Lib.hid (HS2.out rfl hx)
          have HA3 := Lib.hid (show (l.take (k + 1)).any (isN nm) = true by rw [HA2.out, hx]; rfl)
          clear hx HS1 HS2 HS3 HA2
          go_wp2_with (at_builtin; refine wpList_append_own _ rfl (.tmp 27) (.tmp 31) 22 rfl w.heap.size 38 i0 (.agg #[.string ⟨#[]⟩, .string ⟨#[]⟩]) 2 32 Tryd.underlying22 hi hz0 hz1 hz2 rfl (by decide) _ _ _ rfl (World.ownsRow.alloc HOn.out _) ⟨wr.heap.size + 1, 0, none⟩ 1 1 (encFs [(nm, va)]) rfl rfl (fun j u hj => by rw [Addr.add_lit, show wr.heap.size + 1 = (wr.alloc (.cells #[.string a, .string c] 38)).heap.size by simp, cell_of_row _ _ _ _ _ _ (heap_alloc_new _ _), Nat.zero_add, List.getElem?_toArray]; exact hj) (encFs_one _) (by unfold maxLen; omega) (by omega) (by simp; omega) ?_; intro v' w4 hown' hgrow _; have HO4 := Lib.hid (own_snoc1 hown'); have HB4 := Lib.hid (show Below w.heap.size w w4 from (HBn.out.alloc (by simp; omega) _).grown hgrow (by simp; omega) (fun k hk => (HO.out.lt k hk).1)); clear hown' hgrow)
          go_roundw
          case rel => exact ⟨k + 1, true, by omega, by go_num, rfl, HA3, Lib.hid (by rw [HS.out]; exact HO4.out), HB4⟩
          case measure => simp [intOf]; omega
      · have hx : isN nm (a, c) = false := by simpa [isN] using he
        have HS := Lib.hid (show putR nm va (l.take (k + 1)) = D ++ [(a, c)] by
          cases b with
          | true => rw [HS1.out rfl, hx]; rfl
          | false => exact HS3.out rfl hx)
        have HA3 := Lib.hid (show (l.take (k + 1)).any (isN nm) = b by rw [HA2.out, hx, Bool.or_false])
        clear hx HS1 HS2 HS3 HA2
        go_wp2_with (at_builtin; refine wpList_append_own _ rfl (.tmp 21) (.tmp 23) 22 rfl w.heap.size 38 i0 (.agg #[.string ⟨#[]⟩, .string ⟨#[]⟩]) 2 32 Tryd.underlying22 hi hz0 hz1 hz2 rfl (by decide) _ _ _ rfl (World.ownsRow.alloc HOn.out _) ⟨wr.heap.size + 1, 0, none⟩ 1 1 (encFs [(a, c)]) rfl rfl (fun j u hj => by rw [Addr.add_lit, show wr.heap.size + 1 = (wr.alloc (.cells #[.string a, .string c] 38)).heap.size by simp, cell_of_row _ _ _ _ _ _ (heap_alloc_new _ _), Nat.zero_add, List.getElem?_toArray]; exact hj) (encFs_one _) (by unfold maxLen; omega) (by omega) (by simp; omega) ?_; intro v' w4 hown' hgrow _; have HO4 := Lib.hid (own_snoc1 hown'); have HB4 := Lib.hid (show Below w.heap.size w w4 from (HBn.out.alloc (by simp; omega) _).grown hgrow (by simp; omega) (fun k hk => (HO.out.lt k hk).1)); clear hown' hgrow)
        go_roundw
        case rel => exact ⟨k + 1, b, by omega, by go_num, rfl, HA3, Lib.hid (by rw [HS.out]; exact HO4.out), HB4⟩
        case measure => simp [intOf]; omega
    · have hkl : k = l.length := by omega
      have HE := Lib.hid (putR_end nm va l)
      rw [List.take_of_length_le (by omega)] at HO HAN hdl
      have hsz := HB.out.size
      cases b with
      | true =>
        rw [HAN.out, if_pos rfl, List.append_nil] at HE
        obtain ⟨q4, c4, rfl⟩ := Ks.own_slice HO.out
        have HO2 := HO
        rw [← HE.out] at HO2
        clear HO
        rw [← HE.out] at *
        go_wp2
        go_ret
        exact ⟨⟨_, _, rfl, HO2.out⟩, HB.out⟩
      | false =>
        rw [HAN.out, if_neg (by simp)] at HE
        generalize putR nm va l = D at *
        go_wp2_with (at_builtin; refine wpList_append_own _ rfl (.tmp 36) (.tmp 40) 22 rfl w.heap.size 38 i0 (.agg #[.string ⟨#[]⟩, .string ⟨#[]⟩]) 2 32 Tryd.underlying22 hi hz0 hz1 hz2 rfl (by decide) _ _ _ rfl (World.ownsRow.alloc HO.out _) ⟨wr.heap.size, 0, none⟩ 1 1 (encFs [(nm, va)]) rfl rfl (fun j u hj => by rw [Addr.add_lit, cell_of_row _ _ _ _ _ _ (heap_alloc_new _ _), Nat.zero_add, List.getElem?_toArray]; exact hj) (encFs_one _) (by unfold maxLen; omega) (by omega) (by simp; omega) ?_; intro v' w4 hown' hgrow _; have HO4 := Lib.hid (own_snoc1 hown'); have HB4 := Lib.hid (show Below w.heap.size w w4 from (HB.out.alloc (by omega) _).grown hgrow (by simp; omega) (fun k hk => (HO.out.lt k hk).1)); clear hown' hgrow)
        rw [← HE.out] at HO4
        obtain ⟨q4, c4, rfl⟩ := Ks.own_slice HO4.out
        go_ret
        exact ⟨⟨_, _, rfl, HO4.out⟩, HB4.out⟩
end Go.Proofs.YtnjnhgeafbofkaaDoor
