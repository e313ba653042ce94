/-
  Plain mathematics of addresses as texts: digits, parts.
-/
namespace Go.Proofs.YtamhmpgaapgmbaaDoor
/-- bytes from the first one to the last one -/
abbrev Kd := Nat × Nat
def kHas (k : Kd) (b : Nat) : Bool := decide (k.1 ≤ b) && decide (b ≤ k.2)
def anyK (ks : List Kd) (b : Nat) : Bool := ks.any fun k => kHas k b
def madeL (ks : List Kd) (l : List UInt8) : Bool := l.all (fun b => anyK ks b.toNat) && !l.isEmpty
def kOct : Kd := (48, 55)
def kDec : Kd := (48, 57)
def kSmall : Kd := (97, 102)
def kGreat : Kd := (65, 70)
/-- a digit's number -/
def dv (n : Nat) : Nat := if n ≤ 57 then n - 48 else if n ≤ 70 then n - 55 else n - 87
def numL (base : Nat) (l : List UInt8) : Nat := l.foldl (fun a b => a * base + dv b.toNat) 0
def cap (n : Nat) : Nat := if n < 18446744073709551616 then n else 18446744073709551615
theorem cap_le (n : Nat) : cap n < 18446744073709551616 := by unfold cap; split <;> omega
theorem cap_of (n : Nat) (h : n < 18446744073709551616) : cap n = n := if_pos h
theorem anyK_nil (b : Nat) : anyK [] b = false := rfl
theorem anyK_take_succ (ks : List Kd) (i : Nat) (h : i < ks.length) (b : Nat) : anyK (ks.take (i + 1)) b = (anyK (ks.take i) b || kHas ks[i] b) := by
  unfold anyK
  rw [List.take_succ_eq_append_getElem h, List.any_append]
  simp
theorem numL_snoc (base : Nat) (l : List UInt8) (b : UInt8) : numL base (l ++ [b]) = numL base l * base + dv b.toNat := by
  unfold numL; rw [List.foldl_append]; rfl
theorem fold_mono (base : Nat) (hb : 1 ≤ base) (l : List UInt8) : ∀ a, a ≤ l.foldl (fun a b => a * base + dv b.toNat) a := by
  induction l with
  | nil => intro a; exact Nat.le_refl _
  | cons x r ih =>
    intro a
    rw [List.foldl_cons]
    refine Nat.le_trans ?_ (ih _)
    have : a * 1 ≤ a * base := Nat.mul_le_mul_left a hb
    omega
theorem numL_take_le (base : Nat) (hb : 1 ≤ base) (l : List UInt8) (k : Nat) : numL base (l.take k) ≤ numL base l := by
  conv => rhs; rw [← List.take_append_drop k l]
  unfold numL
  rw [List.foldl_append]
  exact fold_mono base hb _ _
theorem numL_take_succ (base : Nat) (l : List UInt8) (k : Nat) (h : k < l.length) : numL base (l.take (k + 1)) = numL base (l.take k) * base + dv l[k].toNat := by
  rw [List.take_succ_eq_append_getElem h, numL_snoc]
end Go.Proofs.YtamhmpgaapgmbaaDoor
