import Derived.Test.YtikdncmgppckfaaDoorUtfL
import Derived.Test.YtikdncmgppckfaaDoorUtfH
import Derived.Test.YtikdncmgppckfaaDoorGR
namespace Go.Proofs.YtikdncmgppckfaaDoor
open Go.RowKit
theorem lit_bytes (w : World) (L : List UInt8) : ∀ j u, (Lib.byteCells L)[j]? = some u → (w.alloc (.cells (Lib.byteCells L).toArray 5)).cell? ((⟨w.heap.size, 0, none⟩ : Addr).add j) = some u := by
  intro j u hj
  have e : (⟨w.heap.size, 0, none⟩ : Addr).add j = ⟨w.heap.size, j, none⟩ := by unfold Addr.add; split <;> simp_all
  rw [e, cell_of_row _ _ j _ _ _ (heap_alloc_new w _)]
  simpa using hj
theorem bytes_cell (L : List UInt8) : ∀ u ∈ Lib.byteCells L, u.oneCell' = true := by
  intro u hu
  simp only [Lib.byteCells, List.mem_map] at hu
  obtain ⟨b, _, rfl⟩ := hu
  rfl
theorem own_app {B : Nat} {v' : Value} {l L : List UInt8} {w : World} (h : w.ownsRow B 5 1 v' (l.length + L.length) (Lib.byteCells l ++ Lib.byteCells L)) : OwnY B v' (l ++ L) w := by
  show w.ownsRow B 5 1 v' (l ++ L).length _
  rw [Lib.byteCells_append, List.length_append]
  exact h
set_option maxHeartbeats 1000000 in
theorem rencode_runes (v : Value) (l : List Int) (T : List UInt8) (hT : U.enc l = T) (hl : 4 * l.length ≤ 140737488355328) (w : World) (hv : RunesAt w v l) :
    Calls Tryd.prog 68 #[v] w fun e w' => e = .returned (.string ⟨T.toArray⟩) ∧ Below w.heap.size w w' := by
  obtain ⟨i0, hi, hz0, hz1, hz2⟩ := info_parts infoByte
  obtain ⟨p, cap, rfl, hc⟩ := hv
  have HC := Lib.hid hc
  have HT := Lib.hid hT
  clear hc hT
  go_enter Tryd.func68, Tryd.ntmps68
  go_wp2_with fail
  go_loopw [3, 8] (fun v i wr => ∃ (k : Nat), k ≤ l.length ∧ i = .int .i64 k ∧ OwnY w.heap.size v (U.enc (l.take k)) wr ∧ Below w.heap.size w wr) (fun _ i _ => l.length - (intOf i).toNat)
  case atStart => exact ⟨0, by omega, rfl, World.ownsRow_nil _ _ _ _, Below.refl _ _⟩
  case round =>
    obtain ⟨k, hk, rfl, hown, hbel⟩ := hrel
    have hsz := hbel.size
    by_cases hlt : k < l.length
    · obtain ⟨g, o, rfl, hg, hx⟩ := HC.out k l[k] (get_some hlt)
      have HE := Lib.hid (enc_take l k hlt)
      have hel := enc_take_len l k (by omega)
      have hw := U.encR_len l[k]
      obtain ⟨L, HL⟩ : ∃ L, Hid (U.encR l[k] = L) := ⟨_, Lib.hid rfl⟩
      rw [HL.out] at hw HE
      generalize l[k] = x at *
      have hx2 : wr.cell? ⟨g, o + k, none⟩ = some (.int .i32 x) := (hbel.cell (p := ⟨g, o + k, none⟩) hg).trans hx
      have HO := Lib.hid hown
      clear hown
      have hbl : (Lib.byteCells L).length = L.length := Lib.byteCells_length L
      go_wp2_with (first | (go_at_call 88; refine (rbytes_is x L HL.out _).mono ?_; rintro e w3 ⟨rfl, rfl⟩) | (at_builtin; refine wpList_append_own _ rfl _ _ 45 rfl w.heap.size 5 i0 (.int .u8 0) 1 1 Tryd.underlying45 hi hz0 hz1 hz2 rfl (by decide) _ _ _ rfl (HO.out.alloc _) ⟨wr.heap.size, 0, none⟩ L.length L.length (Lib.byteCells L) rfl (by rw [hbl]; omega) (lit_bytes _ _) (bytes_cell _) (by unfold maxLen; omega) (by omega) (by simp; omega) ?_; intro v' w1 hown' hgrow _; have HO2 := Lib.hid hown'; clear hown'))
      exact ⟨⟨k + 1, by omega, by go_num, by rw [HE.out]; exact own_app HO2.out, (hbel.alloc (by omega) _).grown hgrow (by simp; omega) (fun k hk => (HO.out.lt k hk).1)⟩, by simp [intOf]; omega⟩
    · have kb := own_back (P := Tryd.prog) hown Tryd.underlying45 Tryd.underlying5 Tryd.underlying9
      have HF := Lib.hid (show U.enc (l.take k) = T by rw [← HT.out, List.take_of_length_le (by omega)])
      clear hown
      generalize U.enc (l.take k) = acc at *
      go_wp2
      go_ret
      exact ⟨by rw [← HF.out]; rfl, hbel⟩
end Go.Proofs.YtikdncmgppckfaaDoor
