/-
  Mathematics of query.Sort: what is ordered stays; of one name the order stays.
-/
import Derived.Test.YtnjnhgeafbofkaaDoorHSbM
namespace Go.Proofs.YtnjnhgeafbofkaaDoor
open Go.RowKit
section
variable {α : Type}
theorem snoc_ind {p : List α → Prop} (h0 : p []) (h : ∀ l x, p l → p (l ++ [x])) (l : List α) : p l := by
  have : ∀ n, ∀ l : List α, l.length = n → p l := by
    intro n
    induction n with
    | zero => intro l hl; rw [List.eq_nil_of_length_eq_zero hl]; exact h0
    | succ n ih =>
      intro l hl
      have hne : l ≠ [] := fun e => by rw [e] at hl; simp at hl
      rw [← List.dropLast_concat_getLast hne]
      exact h _ _ (ih _ (by rw [List.length_dropLast]; omega))
  exact this _ l rfl
theorem S_idem {lt : α → α → Bool} (l : List α) : SM.Srt lt l → SM.S lt l = l := by
  refine snoc_ind (p := fun l => SM.Srt lt l → SM.S lt l = l) (fun _ => rfl) (fun l x ih hs => ?_) l
  unfold SM.Srt at hs ih
  rw [List.pairwise_append] at hs
  rw [SM.S_snoc, ih hs.1]
  have := SM.mrg_one (lt := lt) (A := l) (B := []) (x := x) (fun a ha => hs.2.2 a ha x (List.mem_singleton.2 rfl)) (fun b hb => by cases hb)
  rw [List.append_nil] at this
  exact this
theorem S_S {lt : α → α → Bool} (O : SM.Ord lt) (l : List α) : SM.S lt (SM.S lt l) = SM.S lt l := S_idem _ (SM.S_srt O l)
theorem S_filter {lt : α → α → Bool} (O : SM.Ord lt) (P : α → Bool) (hP : ∀ a b, P a = true → P b = true → lt a b = false) (l : List α) : (SM.S lt l).filter P = l.filter P := by
  refine snoc_ind (p := fun l => (SM.S lt l).filter P = l.filter P) rfl (fun l x ih => ?_) l
  obtain ⟨A, B, hAB, hA, hB⟩ := SM.srt_split O (SM.S_srt O l) x
  rw [SM.S_snoc, hAB, SM.mrg_one hA hB, List.filter_append, List.filter_append, ← ih, hAB, List.filter_append]
  cases hx : P x with
  | true =>
    have hBn : B.filter P = [] := by
      rw [List.filter_eq_nil_iff]
      intro b hb hpb
      have := hP x b hx hpb
      rw [hB b hb] at this; cases this
    simp [hx, hBn]
  | false => simp [hx]
end
def ltF (a b : Fd) : Bool := decide (cmpU (keyU a) (keyU b) < 0)
def sortF (l : List Fd) : List Fd := SM.S ltF l
theorem cmpU_self : ∀ a : List Int, cmpU a a = 0
  | [] => rfl
  | a :: l => by unfold cmpU; rw [if_neg (by omega), if_neg (by omega)]; exact cmpU_self l
theorem ltF_ord : SM.Ord ltF := by
  refine ⟨fun a b c h1 h2 => ?_, fun a b => ?_⟩
  · unfold ltF at *
    rw [decide_eq_false_iff_not] at *
    have := cmpU_trans (keyU a) (keyU b) (keyU c) (by omega) (by omega)
    omega
  · unfold ltF
    rw [decide_eq_false_iff_not, decide_eq_false_iff_not]
    have := cmpU_anti (keyU a) (keyU b)
    omega
theorem sortF_twice (l : List Fd) : sortF (sortF l) = sortF l := S_S ltF_ord l
theorem sortF_len (l : List Fd) : (sortF l).length = l.length := SM.S_length ltF l
theorem sortF_mem (l : List Fd) (x : Fd) : x ∈ sortF l ↔ x ∈ l := (SM.S_perm ltF l).mem_iff
theorem sortF_name (nm : ByteArray) (l : List Fd) : (sortF l).filter (isN nm) = l.filter (isN nm) := by
  refine S_filter ltF_ord (isN nm) (fun a b ha hb => ?_) l
  unfold ltF
  have e : keyU a = keyU b := by
    unfold isN at ha hb
    rw [beq_iff_eq] at ha hb
    have : a.1.data.toList = b.1.data.toList := by
      have h := ha.trans hb.symm
      rw [ByteArray.toList_eq, ByteArray.toList_eq] at h
      exact h
    unfold keyU
    rw [this]
  rw [e, cmpU_self]
  rfl
end Go.Proofs.YtnjnhgeafbofkaaDoor
