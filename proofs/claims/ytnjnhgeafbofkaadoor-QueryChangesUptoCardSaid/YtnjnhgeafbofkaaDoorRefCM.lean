import Derived.Test.YtnjnhgeafbofkaaDoorRefAM
import Derived.Deep.RegionLaw
import Derived.Test.YtnjnhgeafbofkaaDoorUtfIM
import Derived.Test.YtnjnhgeafbofkaaDoorPctCM
/-
  The contract of the reference package bastionref01 for Encode: of what is no set the empty text and ErrType; by a set the encoded text, for every text of which three times the length is at most 2^47; nothing that was there is changed.
-/
namespace Go.Proofs.YtnjnhgeafbofkaaDoor
open Go.RowKit M
theorem step_append_own {P : Program} {w : World} {ops : Array Oper} {o : Oper} {a : Act} {K : Act → World → Prop} {Q : Exit → Act → World → Prop} {E : Prop} (hgd : o.guard = none) (s x : Operand) (t : TypeId)
    (ho : o.op = .call { callee := .builtin .append, args := #[s, x], argTypes := #[t, t] })
    (base : Nat) (e : TypeId) (i : TypeInfo) (z : Value) (size bytes : Nat) (ht : P.underlying t = some (.slice e)) (hi : P.info? e = some i) (hz : i.zero = some z)
    (hsize : i.size = size) (hby : i.bytes = bytes) (hzs : z.cells.size = size) (hsz : 0 < size)
    (v : Value) (n : Nat) (xs : List Value) (hs : a.eval s = v) (hown : w.ownsRow base e size v n xs)
    (ad : Addr) (m c : Nat) (news : List Value) (hx : a.eval x = .slice (some ad) m c) (hl : news.length = m * size) (hnews : ∀ j u, news[j]? = some u → w.cell? (ad.add j) = some u) (h1 : ∀ u ∈ news, u.oneCell' = true)
    (h63 : n + m ≤ maxLen) (hbytes : (n + m) * bytes ≤ 140737488355328) (hbase : base ≤ w.heap.size)
    (h : ∀ v' w', w'.ownsRow base e size v' (n + m) (xs ++ news) → w.grownBy w' v.ownBlock → (v' = .slice none 0 0 ↔ v = .slice none 0 0 ∧ m = 0) → K (a.put o.dst v') w') :
    if Region.wanted o (yielded ops a.tmps) = true then Oper.wp P o a w K Q else E := by
  have hw : Region.wanted o (yielded ops a.tmps) = true := by simp [Region.wanted, hgd]
  rw [if_pos hw]
  exact wp_append_own w s x t ho base e i z size bytes ht hi hz hsize hby hzs hsz v n xs hs hown ad m c news hx hl hnews h1 h63 hbytes hbase h
theorem lit_three (w : World) (a b c : Int) : ∀ j u, ([Value.int .u8 a, .int .u8 b, .int .u8 c])[j]? = some u → (w.alloc (.cells #[.int .u8 a, .int .u8 b, .int .u8 c] 5)).cell? ((⟨w.heap.size, 0, none⟩ : Addr).add j) = some u := by
  intro j u hj
  have e : (⟨w.heap.size, 0, none⟩ : Addr).add j = ⟨w.heap.size, j, none⟩ := by unfold Addr.add; split <;> simp_all
  rw [e, cell_of_row _ _ j _ _ _ (heap_alloc_new w _)]
  simpa using hj
theorem three_cell (a b c : Int) : ∀ u ∈ [Value.int .u8 a, .int .u8 b, .int .u8 c], u.oneCell' = true := by
  intro u hu
  simp only [List.mem_cons, List.not_mem_nil, or_false] at hu
  rcases hu with rfl | rfl | rfl <;> rfl
theorem quo16 (x : Nat) (h : x < 256) : IntKind.u8.wrap ((x : Int) / 16) = (x : Int) / 16 ∧ (x : Int) / 16 < 16 ∧ ((x : Int) / 16).toNat = x / 16 ∧ 0 ≤ (x : Int) / 16 ∧
    ((x : Int).tmod 16) = (x : Int) % 16 ∧ (x : Int) % 16 < 16 ∧ ((x : Int) % 16).toNat = x % 16 ∧ 0 ≤ (x : Int) % 16 := by
  refine ⟨?_, by omega, by omega, by omega, ?_, by omega, by omega, by omega⟩
  · rw [IntKind.wrap_u8']; omega
  · exact Int.tmod_eq_emod_of_nonneg (by omega)
set_option maxHeartbeats 400000 in
theorem rencode_bad (t : ByteArray) (s : Nat) (hs : s < 256) (h : s = 0 ∨ 9 ≤ s) (w : World) :
    Calls Tryd.prog 48 #[.string t, .int .u8 s] w fun e w' => e = .returned (.tuple #[.string ⟨#[]⟩, .int .i64 5]) ∧ w = w' := by
  rcases h with rfl | h
  · go_enter Tryd.func48, Tryd.ntmps48
    go_wp2
    go_ret2
    exact ⟨rfl, rfl⟩
  · go_enter Tryd.func48, Tryd.ntmps48
    go_wp2
    go_ret2
    exact ⟨rfl, rfl⟩
set_option maxHeartbeats 1000000 in
theorem rencode (t : ByteArray) (ht : 3 * t.size ≤ 140737488355328) (s : Nat) (h1 : 1 ≤ s) (h8 : s ≤ 8) (w : World) :
    Calls Tryd.prog 48 #[.string t, .int .u8 s] w fun e w' => e = .returned (.tuple #[.string ⟨(enc s t.data.toList).toArray⟩, .int .i64 0]) ∧ Below w.heap.size w w' := by
  obtain ⟨i0, hi, hz0, hz1, hz2⟩ := info_parts infoByte
  have n1 : decide ((s : Int) < 1) = false := by simp; omega
  have n9 : decide ((9 : Int) ≤ (s : Int)) = false := by simp; omega
  go_enter Tryd.func48, Tryd.ntmps48
  go_wp2
  go_loopw [6, 7] (fun v i wr => ∃ (k : Nat), k ≤ t.size ∧ i = .int .i64 k ∧ OwnY w.heap.size v (enc s (t.data.toList.take k)) wr ∧ Below w.heap.size w wr) (fun _ i _ => t.size - (intOf i).toNat)
  case atStart => exact ⟨0, by omega, rfl, World.ownsRow_nil _ _ _ _, Below.refl _ _⟩
  case round =>
    obtain ⟨k, hk, rfl, hown, hbel⟩ := hrel
    have hsz := hbel.size
    by_cases hlt : k < t.size
    · have hlen : (enc s (t.data.toList.take k)).length ≤ 3 * k := by
        have := enc_len s (t.data.toList.take k)
        rw [List.length_take_of_le (by simp; omega)] at this
        exact this
      have HO := Lib.hid hown
      have hu := t[k].toNat_lt
      have HE := Lib.hid (enc_step s t k hlt)
      clear hown
      generalize enc s (t.data.toList.take k) = acc at *
      by_cases hin : inB s t[k].toNat = true
      · have HI := Lib.hid hin
        go_wp2_with (go_at_call 70; refine (rin_any s _ (by omega) (by omega) _).mono ?_; rintro e w3 ⟨rfl, rfl⟩)
        obtain ⟨q1, q2, q3, q4, r1, r2, r3, r4⟩ := quo16 t[k].toNat (by omega)
        go_region_law ((refine step_append_own rfl _ _ 45 rfl w.heap.size 5 i0 (.int .u8 0) 1 1 Tryd.underlying45 hi hz0 hz1 hz2 rfl (by decide) _ _ _ rfl (by exact HO.out.alloc _) ⟨wr.heap.size, 0, none⟩ 3 3 [.int .u8 37, .int .u8 ((⟨#[48, 49, 50, 51, 52, 53, 54, 55, 56, 57, 65, 66, 67, 68, 69, 70]⟩ : ByteArray)[t[k].toNat / 16]'(by show _ < 16; omega)).toNat, .int .u8 ((⟨#[48, 49, 50, 51, 52, 53, 54, 55, 56, 57, 65, 66, 67, 68, 69, 70]⟩ : ByteArray)[t[k].toNat % 16]'(by show _ < 16; omega)).toNat] rfl rfl (by exact lit_three _ _ _ _) (three_cell _ _ _) (by unfold maxLen; omega) (by omega) (by simp; omega) ?_; intro v' w1 hown' hgrow _; have HO2 := Lib.hid hown'; clear hown'))
        all_goals
          go_wp2
          go_roundw
          case rel =>
            refine ⟨k + 1, by omega, by go_num, ?_, (hbel.drew.alloc (by simp; omega) _).grown hgrow (by simp; omega) (fun k hk => (HO.out.lt k hk).1)⟩
            rw [HE.out, enc1_yes _ _ HI.out]
            have h2 := HO2.out
            rw [tab_hex, tab_hex] at h2
            show w1.ownsRow _ 5 1 v' _ _
            rw [Lib.byteCells_append, List.length_append]
            exact h2
          case measure => simp [intOf]; omega
      · have hi2 : inB s t[k].toNat = false := by simpa using hin
        have HI := Lib.hid hin
        clear hin
        go_wp2_with (first | (go_at_call 70; refine (rin_any s _ (by omega) (by omega) _).mono ?_; rintro e w3 ⟨rfl, rfl⟩) | (at_builtin; refine wpList_append_own _ rfl _ _ 45 rfl w.heap.size 5 i0 (.int .u8 0) 1 1 Tryd.underlying45 hi hz0 hz1 hz2 rfl (by decide) _ _ _ rfl (HO.out.alloc _) ⟨wr.heap.size, 0, none⟩ 1 1 [.int .u8 (t[k].toNat : Int)] rfl rfl (lit_one _ _) (one_cell _) (by unfold maxLen; omega) (by omega) (by simp; omega) ?_; intro v' w1 hown' hgrow _; have HO2 := Lib.hid hown'; clear hown'))
        go_roundw
        case rel =>
          refine ⟨k + 1, by omega, by go_num, ?_, (hbel.alloc (by omega) _).grown hgrow (by simp; omega) (fun k hk => (HO.out.lt k hk).1)⟩
          rw [HE.out, enc1_no _ _ HI.out]; exact ownY_snoc HO2.out
        case measure => simp [intOf]; omega
    · have kb := own_back (P := Tryd.prog) hown Tryd.underlying45 Tryd.underlying5 Tryd.underlying9
      have HF := Lib.hid (show enc s (t.data.toList.take k) = enc s t.data.toList by rw [List.take_of_length_le (by simp; omega)])
      clear hown
      generalize enc s (t.data.toList.take k) = acc at *
      go_wp2
      go_ret2
      exact ⟨by rw [← HF.out]; rfl, hbel⟩
end Go.Proofs.YtnjnhgeafbofkaaDoor
namespace Go.Proofs.YtnjnhgeafbofkaaDoor
open Go.RowKit
theorem lit_bytes (w : World) (L : List UInt8) : ∀ j u, (Lib.byteCells L)[j]? = some u → (w.alloc (.cells (Lib.byteCells L).toArray 5)).cell? ((⟨w.heap.size, 0, none⟩ : Addr).add j) = some u := by
  intro j u hj
  have e : (⟨w.heap.size, 0, none⟩ : Addr).add j = ⟨w.heap.size, j, none⟩ := by unfold Addr.add; split <;> simp_all
  rw [e, cell_of_row _ _ j _ _ _ (heap_alloc_new w _)]
  simpa using hj
theorem bytes_cell (L : List UInt8) : ∀ u ∈ Lib.byteCells L, u.oneCell' = true := by
  intro u hu
  simp only [Lib.byteCells, List.mem_map] at hu
  obtain ⟨b, _, rfl⟩ := hu
  rfl
theorem own_app {B : Nat} {v' : Value} {l L : List UInt8} {w : World} (h : w.ownsRow B 5 1 v' (l.length + L.length) (Lib.byteCells l ++ Lib.byteCells L)) : OwnY B v' (l ++ L) w := by
  show w.ownsRow B 5 1 v' (l ++ L).length _
  rw [Lib.byteCells_append, List.length_append]
  exact h
set_option maxHeartbeats 1000000 in
theorem rencode_runes (v : Value) (l : List Int) (T : List UInt8) (hT : U.enc l = T) (hl : 4 * l.length ≤ 140737488355328) (w : World) (hv : RunesAt w v l) :
    Calls Tryd.prog 68 #[v] w fun e w' => e = .returned (.string ⟨T.toArray⟩) ∧ Below w.heap.size w w' := by
  obtain ⟨i0, hi, hz0, hz1, hz2⟩ := info_parts infoByte
  obtain ⟨p, cap, rfl, hc⟩ := hv
  have HC := Lib.hid hc
  have HT := Lib.hid hT
  clear hc hT
  go_enter Tryd.func68, Tryd.ntmps68
  go_wp2_with fail
  go_loopw [3, 8] (fun v i wr => ∃ (k : Nat), k ≤ l.length ∧ i = .int .i64 k ∧ OwnY w.heap.size v (U.enc (l.take k)) wr ∧ Below w.heap.size w wr) (fun _ i _ => l.length - (intOf i).toNat)
  case atStart => exact ⟨0, by omega, rfl, World.ownsRow_nil _ _ _ _, Below.refl _ _⟩
  case round =>
    obtain ⟨k, hk, rfl, hown, hbel⟩ := hrel
    have hsz := hbel.size
    by_cases hlt : k < l.length
    · obtain ⟨g, o, rfl, hg, hx⟩ := HC.out k l[k] (get_some hlt)
      have HE := Lib.hid (enc_take l k hlt)
      have hel := enc_take_len l k (by omega)
      have hw := U.encR_len l[k]
      obtain ⟨L, HL⟩ : ∃ L, Hid (U.encR l[k] = L) := ⟨_, Lib.hid rfl⟩
      rw [HL.out] at hw HE
      generalize l[k] = x at *
      have hx2 : wr.cell? ⟨g, o + k, none⟩ = some (.int .i32 x) := (hbel.cell (p := ⟨g, o + k, none⟩) hg).trans hx
      have HO := Lib.hid hown
      clear hown
      have hbl : (Lib.byteCells L).length = L.length := Lib.byteCells_length L
      go_wp2_with (first | (go_at_call 88; refine (rbytes_is x L HL.out _).mono ?_; rintro e w3 ⟨rfl, rfl⟩) | (at_builtin; refine wpList_append_own _ rfl _ _ 45 rfl w.heap.size 5 i0 (.int .u8 0) 1 1 Tryd.underlying45 hi hz0 hz1 hz2 rfl (by decide) _ _ _ rfl (HO.out.alloc _) ⟨wr.heap.size, 0, none⟩ L.length L.length (Lib.byteCells L) rfl (by rw [hbl]; omega) (lit_bytes _ _) (bytes_cell _) (by unfold maxLen; omega) (by omega) (by simp; omega) ?_; intro v' w1 hown' hgrow _; have HO2 := Lib.hid hown'; clear hown'))
      exact ⟨⟨k + 1, by omega, by go_num, by rw [HE.out]; exact own_app HO2.out, (hbel.alloc (by omega) _).grown hgrow (by simp; omega) (fun k hk => (HO.out.lt k hk).1)⟩, by simp [intOf]; omega⟩
    · have kb := own_back (P := Tryd.prog) hown Tryd.underlying45 Tryd.underlying5 Tryd.underlying9
      have HF := Lib.hid (show U.enc (l.take k) = T by rw [← HT.out, List.take_of_length_le (by omega)])
      clear hown
      generalize U.enc (l.take k) = acc at *
      go_wp2
      go_ret
      exact ⟨by rw [← HF.out]; rfl, hbel⟩
end Go.Proofs.YtnjnhgeafbofkaaDoor
