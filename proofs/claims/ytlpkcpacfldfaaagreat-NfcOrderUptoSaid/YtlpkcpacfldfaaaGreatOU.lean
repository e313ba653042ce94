import Derived.Test.YtlpkcpacfldfaaaGreatRows
import Derived.Test.YtlpkcpacfldfaaaGreatOT
namespace Go.Proofs.YtlpkcpacfldfaaaGreat
open Go.RowKit N
open Go.ChangeShapes Go.WideShapes Go.Deep
section
variable {H : Type} {enc : TypeId × Value → H} {W : World}
theorem bulk_pos : ∀ d : DataW H, 1 ≤ Rows.uptoBulk d
  | .lit l => by cases l <;> simp [Rows.uptoBulk]
  | .nil => by simp [Rows.uptoBulk]
  | .ptr d => by simp [Rows.uptoBulk]
  | .slice _ _ => by simp [Rows.uptoBulk]
  | .agg _ => by simp [Rows.uptoBulk]
  | .iface _ _ => by simp [Rows.uptoBulk]
  | .map _ => by simp [Rows.uptoBulk]
  | .held _ => by simp [Rows.uptoBulk]
theorem bulk_all : ∀ l : List (DataW H), l.length ≤ Rows.uptoBulkAll l
  | [] => by simp
  | d :: l => by
    have h1 := bulk_pos d
    have h2 := bulk_all l
    rw [Rows.uptoBulkAll, List.length_cons]
    omega
theorem bulk_len {d : DataW H} {n : Nat} (h : (d = .nil ∧ n = 0) ∨ ∃ es sp, d = .slice es sp ∧ es.length = n) : n ≤ Rows.uptoBulk d := by
  rcases h with ⟨rfl, rfl⟩ | ⟨es, sp, rfl, rfl⟩
  · exact Nat.zero_le _
  · have := bulk_all es
    rw [Rows.uptoBulk]
    omega
set_option maxRecDepth 100000 in
theorem open_l32 {base : Nat} {v : Value} {d : DataW H} {p : List MemPlace} (hv : Value.okWide Tryz.prog W .any base 29 v) (h : DataW.Trod enc Tryz.prog W 0 (fun _ => true) true 29 v d p) (hw : (DataW.weights Tryz.prog 29 d).all (· ≤ reachBytes) = true) :
    ∃ l, RunesAt W v l ∧ (∀ m c', v = .slice none m c' → m = 0 ∧ c' = 0) ∧ Wf32 l ∧ 4 * l.length ≤ 140737488351232 ∧ l.length ≤ Rows.uptoBulk d := by
  obtain ⟨a, len, cap, rfl⟩ := okWide_slice Tryz.underlying29 hv
  obtain ⟨fuel, hf⟩ := h
  have hf' : TR enc W fuel 29 [.slice a len cap] (d, p) := by simpa [Value.cells] using hf
  obtain ⟨l, h1, h2, h3, h4⟩ := open_runes hf'
  have h5 : (d = .nil ∧ l.length = 0) ∨ ∃ es sp, d = .slice es sp ∧ es.length = l.length := h4.imp (fun h => ⟨h.1, by rw [h.2]; rfl⟩) id
  refine ⟨l, h1, h2, h3, ?_, bulk_len h5⟩
  rcases h5 with ⟨_, hl⟩ | ⟨es, sp, rfl, hl⟩
  · omega
  · have hwe : (DataW.weightsEach Tryz.prog [29] [(DataW.slice es sp : DataW H)]).all (· ≤ reachBytes) = true := by
      have e : DataW.weightsEach Tryz.prog [29] [(DataW.slice es sp : DataW H)] = DataW.weights Tryz.prog 29 (.slice es sp) := by simp [DataW.weightsEach]
      rw [e]; exact hw
    have hy := sized_slice hwe (j := 0) rfl rfl Tryz.underlying29
    have hby : Tryz.prog.bytesOf 21 = 4 := by kernel_rfl
    rw [hby] at hy
    simp only [reachBytes] at hy
    omega
end
end Go.Proofs.YtlpkcpacfldfaaaGreat
