import Derived.Test.YtflddokngplgiaaDoorA17M
import Derived.Maps.AppendAt
namespace Go.Proofs.YtflddokngplgiaaDoor
open Go.RowKit Go.Shelf
attribute [local go_sem] Oper.semAt_some
theorem holdsRow_box {β : Type} (n₀ B0 bx Bs : Nat) (t e tt : TypeId) (ht : tt ≠ t) (he : tt ≠ e) (size : Nat) (k : β → Nat) (f : β → List Value) (G : β → Value → Prop) :
    OwnBox tt B0 bx (fun s W => ∃ v, Boxed W Bs t v ∧ W.ownsRow n₀ e size v (k s) (f s) ∧ G s v) := by
  rintro s X Y row ⟨v, hv, hr, hG⟩ hg hrow
  refine ⟨v, hv.kept hg (fun e' => ?_), hr.kept hg ?_, hG⟩
  · rcases hrow Bs e'.symm with ⟨_, o, ho, hc⟩ | ⟨rfl, ⟨x, hx⟩, _⟩
    · rw [show X.heap[Bs]? = _ from hv] at ho; cases ho; cases hc
    · have hh := hx.symm.trans (show X.heap[Bs]? = _ from hv)
      simp at hh
      exact ht hh.2
  · rcases hr.2 with ⟨rfl, _⟩ | ⟨g, cap, cur, rfl, _, hgb, _⟩
    · exact .inl rfl
    · refine .inr fun e' => ?_
      rcases hrow g (by simpa [Value.ownBlock] using e'.symm) with ⟨_, o, ho, hc⟩ | ⟨rfl, ⟨x, hx⟩, _⟩
      · rw [hgb] at ho; cases ho; cases hc
      · have hh := hx.symm.trans hgb
        simp at hh
        exact he hh.2
theorem ownBox_below {β : Type} {n₀ B0 bx : Nat} {tt : TypeId} {w : World} (h0 : n₀ ≤ w.heap.size) (h1 : n₀ ≤ B0) (h2 : n₀ ≤ bx) : OwnBox tt B0 bx (fun (_ : β) W => Below n₀ w W) := by
  intro s X Y row hs hg hr
  refine hs.grown hg (by have := hs.size; omega) fun k e => ?_
  rcases hr k e with ⟨h, _⟩ | ⟨h, _⟩ <;> omega
theorem ownBox_text {β : Type} {B0 bx : Nat} {tt : TypeId} : OwnBox tt B0 bx (fun (_ : β) W => TextBox tt bx W) := by
  intro s X Y row hs hg hr
  by_cases e : row = some bx
  · rcases hr bx e with ⟨_, o, ho, hc⟩ | ⟨_, _, h⟩
    · obtain ⟨x, hx⟩ := hs
      rw [hx] at ho; cases ho; cases hc
    · exact h
  · obtain ⟨x, hx⟩ := hs
    exact ⟨x, (hg.block bx (Array.getElem?_eq_some_iff.1 hx).1 (fun h => e h.symm)).trans hx⟩
theorem OwnBox.and {β : Type} {B bx : Nat} {t : TypeId} {I I' : β → World → Prop} (h : OwnBox t B bx I) (h' : OwnBox t B bx I') : OwnBox t B bx (fun s W => I s W ∧ I' s W) := fun s W W' row hs hg hr => ⟨h s W W' row hs.1 hg hr, h' s W W' row hs.2 hg hr⟩
theorem ownBox_pure {β : Type} {B bx : Nat} {t : TypeId} (p : β → Prop) : OwnBox t B bx (fun s _ => p s) := fun _ _ _ _ hs _ _ => hs
theorem ownBox_boxed {β : Type} {B0 bx k : Nat} {tt t : TypeId} {v : Value} (hk : k ≠ bx) : OwnBox tt B0 bx (fun (_ : β) W => Boxed W k t v) := by
  intro s X Y row hs hg hr
  refine hs.kept hg fun e => ?_
  rcases hr k e.symm with ⟨_, o, ho, hc⟩ | ⟨h, _⟩
  · rw [show X.heap[k]? = _ from hs] at ho; cases ho; cases hc
  · exact hk h
/-- what a piece is read as -/
def hexP (p : List UInt8) : Option Nat := if p.length ≤ 4 then partO kHex 16 p else none
def hexV (p : List UInt8) : Nat := (hexP p).getD 0
theorem dv16 {b : Nat} (h : anyK kHex b = true) : dv b ≤ 15 := by
  rcases any3 h with h | h | h
  · unfold dv; rw [if_pos (by omega)]; omega
  · unfold dv; rw [if_neg (by omega), if_neg (by omega)]; omega
  · unfold dv; rw [if_neg (by omega), if_pos (by omega)]; omega
theorem numL16 (l : List UInt8) (h : ∀ b ∈ l, anyK kHex b.toNat = true) : numL 16 l < 16 ^ l.length := by
  have key : ∀ (l : List UInt8), (∀ b ∈ l, anyK kHex b.toNat = true) → ∀ a, l.foldl (fun a b => a * 16 + dv b.toNat) a < (a + 1) * 16 ^ l.length := by
    intro l
    induction l with
    | nil => intro _ a; simp
    | cons b r ih =>
      intro h a
      have h1 := ih (fun x hx => h x (List.mem_cons_of_mem _ hx)) (a * 16 + dv b.toNat)
      have h2 := dv16 (h b (by simp))
      rw [List.foldl_cons]
      refine Nat.lt_of_lt_of_le h1 ?_
      rw [List.length_cons, Nat.pow_succ]
      calc (a * 16 + dv b.toNat + 1) * 16 ^ r.length ≤ ((a + 1) * 16) * 16 ^ r.length := Nat.mul_le_mul_right _ (by omega)
        _ = (a + 1) * (16 ^ r.length * 16) := by rw [Nat.mul_assoc, Nat.mul_comm 16]
  simpa [numL] using key l h 0
theorem hexP_lt {p : List UInt8} {n : Nat} (h : hexP p = some n) : n < 65536 ∧ p.length ≤ 4 ∧ partO kHex 16 p = some n := by
  unfold hexP at h
  split at h
  · rename_i h4
    refine ⟨?_, h4, h⟩
    unfold partO at h
    split at h
    · rename_i hm
      have hall : ∀ b ∈ p, anyK kHex b.toNat = true := by
        unfold madeL at hm
        rw [Bool.and_eq_true, List.all_eq_true] at hm
        exact hm.1
      have h1 := numL16 p hall
      have h2 : 16 ^ p.length ≤ 16 ^ 4 := Nat.pow_le_pow_right (by omega) h4
      have h3 : (16 : Nat) ^ 4 = 65536 := by decide
      cases h
      rw [cap_of _ (by omega)]
      omega
    · cases h
  · cases h
/-- the pieces that stand between colons -/
def pcs (l : List UInt8) : Option (List Nat) := if l = [] then some [] else if (partsAt 58 l).all (fun p => (hexP p).isSome) then some ((partsAt 58 l).map hexV) else none
set_option maxHeartbeats 1000000 in
theorem splitseq_in (n : Nat) (u : ByteArray) (w : World) :
    CallsIn Fence.wide n Tryd.prog 56 #[.string u, .string ⟨#[58]⟩] w fun e w' => e = .returned (.func (.func 85) #[] #[.pointer (some ⟨w.heap.size + 1, 0, none⟩), .pointer (some ⟨w.heap.size, 0, none⟩), .pointer (some ⟨w.heap.size + 2, 0, none⟩)]) ∧ w' = ((w.alloc (.cells #[.string u] 9)).alloc (.cells #[.string ⟨#[58]⟩] 9)).alloc (.cells #[.int .i64 0] 3) := by
  refine callsIn_wide.2 ?_
  go_enter Tryd.func56, Tryd.ntmps56
  go_wp2_with fail
  have : Calls Tryd.prog 68 #[.string u, .string ⟨#[58]⟩, .int .i64 0] w fun e w' => e = .returned (.func (.func 85) #[] #[.pointer (some ⟨w.heap.size + 1, 0, none⟩), .pointer (some ⟨w.heap.size, 0, none⟩), .pointer (some ⟨w.heap.size + 2, 0, none⟩)]) ∧ w' = ((w.alloc (.cells #[.string u] 9)).alloc (.cells #[.string ⟨#[58]⟩] 9)).alloc (.cells #[.int .i64 0] 3) := by
    go_enter Tryd.func68, Tryd.ntmps68
    go_wp2_with fail
    go_ret
    exact ⟨rfl, rfl⟩
  refine this.mono ?_
  rintro e w1 ⟨rfl, rfl⟩
  go_wp2_with fail
  go_ret
  exact ⟨rfl, rfl⟩
end Go.Proofs.YtflddokngplgiaaDoor
