import Derived.Test.YtikdncmgppckfaaDoorUtfI
import Derived.BigQuiet
import Derived.Deep.QuietTactic
import Derived.Laws.OwnMore
namespace Go.Proofs.YtikdncmgppckfaaDoor
open Go.RowKit
theorem Runes.at {w : World} {base : Nat} {v : Value} {l : List Int} (h : Runes w base v l) : RunesAt w v l := by
  obtain ⟨hr, _⟩ := h
  have hr0 := hr
  rcases hr.2 with ⟨rfl, h0⟩ | ⟨g, cap, cur, rfl, hb, hgb, _⟩
  · have : l = [] := List.eq_nil_of_length_eq_zero h0
    subst this
    exact ⟨none, 0, rfl, fun k x hk => by simp at hk⟩
  · refine ⟨_, cap, rfl, fun k x hk => ⟨g, 0, rfl, (Array.getElem?_eq_some_iff.1 hgb).1, ?_⟩⟩
    have hkl : k < l.length := (List.getElem?_eq_some_iff.1 hk).1
    rw [Nat.zero_add, hr0.cellAt k (by omega), List.getElem?_map, hk]; rfl
theorem runes_lit {w : World} {g t : Nat} {l : List Int} (h : w.heap[g]? = some (.cells (l.map (Value.int .i32)).toArray t (0, 0))) (cap : Nat) : RunesAt w (.slice (some ⟨g, 0, none⟩) l.length cap) l := by
  refine ⟨_, cap, rfl, fun k x hk => ⟨g, 0, rfl, (Array.getElem?_eq_some_iff.1 h).1, ?_⟩⟩
  rw [Nat.zero_add, cell_of_row _ _ k _ _ _ h]
  simp [hk]
end Go.Proofs.YtikdncmgppckfaaDoor
