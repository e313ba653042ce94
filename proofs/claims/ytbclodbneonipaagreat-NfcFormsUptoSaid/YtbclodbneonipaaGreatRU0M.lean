import Derived.Test.YtbclodbneonipaaGreatAAM
import Derived.Test.YtbclodbneonipaaGreatCRwayM
import Derived.Deep.RegionHeld3
namespace Go.Proofs.YtbclodbneonipaaGreat
open Go.RowKit N
/-- all runes of a table -/
def spR (x : Sp) : List Int := x.lo :: x.hi :: x.map
def clR (x : Cl) : List Int := [x.r]
def paR (x : Pa) : List Int := [x.r, x.a, x.b]
def sgR (x : Sg) : List Int := [x.lo, x.hi]
def runesT (T : Tab) : List Int := T.spans.flatMap spR ++ T.classes.flatMap clR ++ T.pairs.flatMap paR ++ T.ways.flatMap sgR ++ T.joins.flatMap sgR
theorem fm_len {α : Type} {f : α → List Int} {c : Nat} : ∀ (l : List α), (∀ x ∈ l, (f x).length ≤ c) → (l.flatMap f).length ≤ c * l.length
  | [], _ => by simp
  | x :: l, h => by
    rw [List.flatMap_cons, List.length_append, List.length_cons, Nat.mul_add]
    have h1 := h x (by simp)
    have h2 := fm_len l (fun y hy => h y (by simp [hy]))
    omega
theorem fm_snoc {α : Type} {f : α → List Int} {l : List α} {k : Nat} (h : k < l.length) : (l.take (k + 1)).flatMap f = (l.take k).flatMap f ++ f l[k] := by
  rw [take_snoc l k h, List.flatMap_append]
  simp
theorem fm_take {α : Type} {f : α → List Int} {c : Nat} {l : List α} (k : Nat) (hk : k ≤ 1024) (h : ∀ x ∈ l, (f x).length ≤ c) : ((l.take k).flatMap f).length ≤ c * 1024 := by
  have h1 := fm_len (l.take k) (fun x hx => h x (List.mem_of_mem_take hx))
  have h2 : (l.take k).length ≤ 1024 := by rw [List.length_take]; omega
  exact Nat.le_trans h1 (Nat.mul_le_mul_left c h2)
theorem step_append_runes {P : Program} {w : World} {ops : Array Oper} {o : Oper} {a : Act} {K : Act → World → Prop} {Q : Exit → Act → World → Prop} {E : Prop} (hgd : o.guard = none) (s x : Operand)
    (ho : o.op = .call { callee := .builtin .append, args := #[s, x], argTypes := #[29, 29] })
    (base : Nat) (i : TypeInfo) (ht : P.underlying 29 = some (.slice 21)) (hi : P.info? 21 = some i) (hz : i.zero = some (.int .i32 0)) (hsize : i.size = 1) (hby : i.bytes = 4)
    (v : Value) (n : Nat) (xs : List Value) (hs : a.eval s = v) (hown : w.ownsRow base 21 1 v n xs) (v2 : Value) (l2 : List Int) (hx : a.eval x = v2) (h2 : RunesAt w v2 l2) (hn2 : ∀ n c, v2 = .slice none n c → n = 0 ∧ c = 0)
    (h63 : n + l2.length ≤ maxLen) (hbytes : (n + l2.length) * 4 ≤ 140737488355328) (hbase : base ≤ w.heap.size)
    (h : ∀ v' w', w'.ownsRow base 21 1 v' (n + l2.length) (xs ++ l2.map (Value.int .i32)) → w.grownBy w' v.ownBlock → K (a.put o.dst v') w') :
    if Region.wanted o (yielded ops a.tmps) = true then Oper.wp P o a w K Q else E := by
  have hw : Region.wanted o (yielded ops a.tmps) = true := by simp [Region.wanted, hgd]
  rw [if_pos hw]
  obtain ⟨p, cap, rfl, _⟩ := id h2
  cases p with
  | none =>
    obtain ⟨e1, e2⟩ := hn2 _ _ rfl
    have hy : l2 = [] := List.eq_nil_of_length_eq_zero e1
    subst hy e2
    have hrun := run_append_owned_none (P := P) (w := w) base 29 o.type 21 i 1 ht hi v n xs hown
    unfold Oper.wp
    simp [execOp, ho, resolve, invoke, builtin, hs, hx, hrun, Result.andThen]
    refine (h v w ?_ (grownBy_same _ _))
    simpa using hown
  | some ad =>
    have hlm : (l2.map (Value.int .i32)).length = l2.length * 1 := by simp
    exact wp_append_own w s x 29 ho base 21 i (.int .i32 0) 1 4 ht hi hz hsize hby rfl (by decide) v n xs hs hown ad l2.length cap (l2.map (Value.int .i32)) hx hlm (runes_news h2) (runes_one _) h63 hbytes hbase (fun v' w' a b _ => h v' w' a b)
end Go.Proofs.YtbclodbneonipaaGreat
