/-
  No cell of these rows narrows 'for every input' (looked for: loops, veiled, ifaces, maps, wideKeys, modest, calm, conditions, laid).
  DERIVED. THE GIVEN ROWS OF THIS SEAT. 5 by the template 'for every input the law returns true; each argument reads behind the call as it read before'; 0 by the template 'total and deterministic' (their statements: YtbclodbneonipaaGreatTotals.lean).
  GIVEN WITH THE SEED: the statements are not yours to turn. If you find one false, say at which input.
  Laid BY PROGRAM, IN A SANDBOX (cutbox-rows.mjs): the forced cells as the released guide's own fill.sh prints them over the translation f20fd207283eaf3b… (all of the seat's roots in one cut). By AI agents, Wed Nov 11 2026. No macro, syntax, notation, axiom, sorry.
-/
import Derived.Test.YtbclodbneonipaaGreatChecked
import GoSem.Claim
import GoSem.ClaimJoined
import GoSem.ClaimMapViews
import Derived.JoinedTies
import Derived.KernelRfl
namespace Go.Proofs.YtbclodbneonipaaGreat
/- THE CELL 'sum', in the pinned program and in every row, IS THE sha256 OF THE DUMP (.gsa) THAT YtbclodbneonipaaGreatProg.lean LOADS. Nothing in Lean hashes anything: it is a label: what it is worth is what the hold of that sum in a sandbox is worth. -/
noncomputable def Tryz.pinned : Pinned := { name := "ytbclodbneonipaagreat", sum := "f20fd207283eaf3b96713a2b0b31df0eb19fb35c45185401786409d3c6969d3c", checked := Tryz.checked }
namespace Rows
def none {H : Type} : Left H := { results := [], args := [] }

/-- 'bastionlaw04.NfcForms': WHATEVER THE INPUT: true; the input reads as it did. -/
def nfcFormsSpec : ChangeSpec := { name := "nfcForms", fn := fun _ => fun
  | [d1, d2] => { results := [.lit (.bool true)], args := [d1, d2] }
  | _ => none }
def nfcFormsRow : OpenClaim := { program := "ytbclodbneonipaagreat", sum := "f20fd207283eaf3b96713a2b0b31df0eb19fb35c45185401786409d3c6969d3c", func := "bastion/bastionlaw04.NfcForms", spec := "nfcForms", inPlace := ["internal/abi.NoEscape", "internal/bytealg.MakeNoZero"], unfollowed := true, recurses := true, plainKeys := false, apart := false }
def NfcFormsSaid : Prop := nfcFormsRow.holds Tryz.pinned (OpenSpec.ofChange nfcFormsSpec)

/-- ITS FALSE NEIGHBOUR: 'it returns false'. Refute it at one input. -/
def nfcFormsWrong : ChangeSpec := { name := "nfcForms", fn := fun _ => fun
  | [d1, d2] => { results := [.lit (.bool false)], args := [d1, d2] }
  | _ => none }
def NfcFormsWrongFalsely : Prop := nfcFormsRow.holds Tryz.pinned (OpenSpec.ofChange nfcFormsWrong)

/-- 'bastionlaw04.NfcOrder': WHATEVER THE INPUT: true; the input reads as it did. -/
def nfcOrderSpec : ChangeSpec := { name := "nfcOrder", fn := fun _ => fun
  | [d1, d2] => { results := [.lit (.bool true)], args := [d1, d2] }
  | _ => none }
def nfcOrderRow : OpenClaim := { program := "ytbclodbneonipaagreat", sum := "f20fd207283eaf3b96713a2b0b31df0eb19fb35c45185401786409d3c6969d3c", func := "bastion/bastionlaw04.NfcOrder", spec := "nfcOrder", inPlace := ["internal/abi.NoEscape", "internal/bytealg.MakeNoZero"], unfollowed := true, recurses := true, plainKeys := false, apart := false }
def NfcOrderSaid : Prop := nfcOrderRow.holds Tryz.pinned (OpenSpec.ofChange nfcOrderSpec)

/-- ITS FALSE NEIGHBOUR: 'it returns false'. Refute it at one input. -/
def nfcOrderWrong : ChangeSpec := { name := "nfcOrder", fn := fun _ => fun
  | [d1, d2] => { results := [.lit (.bool false)], args := [d1, d2] }
  | _ => none }
def NfcOrderWrongFalsely : Prop := nfcOrderRow.holds Tryz.pinned (OpenSpec.ofChange nfcOrderWrong)

/-- 'bastionlaw04.NfcHangul': WHATEVER THE INPUT: true; the input reads as it did. -/
def nfcHangulSpec : ChangeSpec := { name := "nfcHangul", fn := fun _ => fun
  | [d1, d2] => { results := [.lit (.bool true)], args := [d1, d2] }
  | _ => none }
def nfcHangulRow : OpenClaim := { program := "ytbclodbneonipaagreat", sum := "f20fd207283eaf3b96713a2b0b31df0eb19fb35c45185401786409d3c6969d3c", func := "bastion/bastionlaw04.NfcHangul", spec := "nfcHangul", inPlace := ["internal/abi.NoEscape", "internal/bytealg.MakeNoZero"], unfollowed := true, recurses := true, plainKeys := false, apart := false }
def NfcHangulSaid : Prop := nfcHangulRow.holds Tryz.pinned (OpenSpec.ofChange nfcHangulSpec)

/-- ITS FALSE NEIGHBOUR: 'it returns false'. Refute it at one input. -/
def nfcHangulWrong : ChangeSpec := { name := "nfcHangul", fn := fun _ => fun
  | [d1, d2] => { results := [.lit (.bool false)], args := [d1, d2] }
  | _ => none }
def NfcHangulWrongFalsely : Prop := nfcHangulRow.holds Tryz.pinned (OpenSpec.ofChange nfcHangulWrong)

/-- 'bastionlaw04.NfcParts': WHATEVER THE INPUT: true; the input reads as it did. -/
def nfcPartsSpec : ChangeSpec := { name := "nfcParts", fn := fun _ => fun
  | [d1, d2, d3] => { results := [.lit (.bool true)], args := [d1, d2, d3] }
  | _ => none }
def nfcPartsRow : OpenClaim := { program := "ytbclodbneonipaagreat", sum := "f20fd207283eaf3b96713a2b0b31df0eb19fb35c45185401786409d3c6969d3c", func := "bastion/bastionlaw04.NfcParts", spec := "nfcParts", inPlace := ["internal/abi.NoEscape", "internal/bytealg.MakeNoZero"], unfollowed := true, recurses := true, plainKeys := false, apart := false }
def NfcPartsSaid : Prop := nfcPartsRow.holds Tryz.pinned (OpenSpec.ofChange nfcPartsSpec)

/-- ITS FALSE NEIGHBOUR: 'it returns false'. Refute it at one input. -/
def nfcPartsWrong : ChangeSpec := { name := "nfcParts", fn := fun _ => fun
  | [d1, d2, d3] => { results := [.lit (.bool false)], args := [d1, d2, d3] }
  | _ => none }
def NfcPartsWrongFalsely : Prop := nfcPartsRow.holds Tryz.pinned (OpenSpec.ofChange nfcPartsWrong)

/-- 'bastionlaw04.NfcFew': WHATEVER THE INPUT: true; the input reads as it did. -/
def nfcFewSpec : ChangeSpec := { name := "nfcFew", fn := fun _ => fun
  | [d1, d2] => { results := [.lit (.bool true)], args := [d1, d2] }
  | _ => none }
def nfcFewRow : OpenClaim := { program := "ytbclodbneonipaagreat", sum := "f20fd207283eaf3b96713a2b0b31df0eb19fb35c45185401786409d3c6969d3c", func := "bastion/bastionlaw04.NfcFew", spec := "nfcFew", inPlace := ["internal/abi.NoEscape", "internal/bytealg.MakeNoZero"], unfollowed := true, recurses := true, plainKeys := false, apart := false }
def NfcFewSaid : Prop := nfcFewRow.holds Tryz.pinned (OpenSpec.ofChange nfcFewSpec)

/-- ITS FALSE NEIGHBOUR: 'it returns false'. Refute it at one input. -/
def nfcFewWrong : ChangeSpec := { name := "nfcFew", fn := fun _ => fun
  | [d1, d2] => { results := [.lit (.bool false)], args := [d1, d2] }
  | _ => none }
def NfcFewWrongFalsely : Prop := nfcFewRow.holds Tryz.pinned (OpenSpec.ofChange nfcFewWrong)

/- THE SECOND FORM. 'bulk': how many values and letters a reading holds, each counted each time it is reached (what is shared counts as often as it is met; a slice's spare places count too). A statement '..UptoSaid' is the law's where the arguments, and the package variables that the reading takes, are together of bulk at most 1048576: NARROWER than '..Said'. Prove '..Said' where nothing that the law and all that it calls make is longer than what came in: it says more and counts as full. Else prove '..UptoSaid'. A law counts once. -/
mutual
def uptoBulk {H : Type} : DataW H → Nat
  | .lit (.string bytes) => bytes.length + 1
  | .lit _ => 1
  | .nil => 1
  | .ptr d => uptoBulk d + 1
  | .slice elems spare => uptoBulkAll elems + uptoBulkAll spare + 1
  | .agg parts => uptoBulkAll parts + 1
  | .iface _ d => uptoBulk d + 1
  | .map entries => uptoBulkEntries entries + 1
  | .held _ => 1
def uptoBulkAll {H : Type} : List (DataW H) → Nat
  | [] => 0
  | d :: r => uptoBulk d + uptoBulkAll r
def uptoBulkEntries {H : Type} : List (Lit × DataW H) → Nat
  | [] => 0
  | x :: r => uptoBulkEntry x + uptoBulkEntries r
def uptoBulkEntry {H : Type} : Lit × DataW H → Nat
  | (.string bytes, d) => bytes.length + uptoBulk d + 1
  | (_, d) => uptoBulk d + 1
 end
def uptoSmall : (H : Type) → List (DataW H) → Bool := fun _ ds => decide (uptoBulkAll ds ≤ 1048576)
def OpenSpec.upto (s : _root_.Go.ChangeSpec) : _root_.Go.OpenSpec := { _root_.Go.OpenSpec.ofChange s with cond := some uptoSmall }

/-- 'bastionlaw04.NfcForms', WHERE WHAT IT READS IS OF BULK AT MOST 1048576: true; the input reads as it did. -/
def nfcFormsUptoRow : OpenClaim := { program := "ytbclodbneonipaagreat", sum := "f20fd207283eaf3b96713a2b0b31df0eb19fb35c45185401786409d3c6969d3c", func := "bastion/bastionlaw04.NfcForms", spec := "nfcForms", inPlace := ["internal/abi.NoEscape", "internal/bytealg.MakeNoZero"], unfollowed := true, recurses := true, plainKeys := false, apart := false, narrowed := true }
def NfcFormsUptoSaid : Prop := nfcFormsUptoRow.holds Tryz.pinned (OpenSpec.upto nfcFormsSpec)

/-- 'bastionlaw04.NfcOrder', WHERE WHAT IT READS IS OF BULK AT MOST 1048576: true; the input reads as it did. -/
def nfcOrderUptoRow : OpenClaim := { program := "ytbclodbneonipaagreat", sum := "f20fd207283eaf3b96713a2b0b31df0eb19fb35c45185401786409d3c6969d3c", func := "bastion/bastionlaw04.NfcOrder", spec := "nfcOrder", inPlace := ["internal/abi.NoEscape", "internal/bytealg.MakeNoZero"], unfollowed := true, recurses := true, plainKeys := false, apart := false, narrowed := true }
def NfcOrderUptoSaid : Prop := nfcOrderUptoRow.holds Tryz.pinned (OpenSpec.upto nfcOrderSpec)

/-- 'bastionlaw04.NfcHangul', WHERE WHAT IT READS IS OF BULK AT MOST 1048576: true; the input reads as it did. -/
def nfcHangulUptoRow : OpenClaim := { program := "ytbclodbneonipaagreat", sum := "f20fd207283eaf3b96713a2b0b31df0eb19fb35c45185401786409d3c6969d3c", func := "bastion/bastionlaw04.NfcHangul", spec := "nfcHangul", inPlace := ["internal/abi.NoEscape", "internal/bytealg.MakeNoZero"], unfollowed := true, recurses := true, plainKeys := false, apart := false, narrowed := true }
def NfcHangulUptoSaid : Prop := nfcHangulUptoRow.holds Tryz.pinned (OpenSpec.upto nfcHangulSpec)

/-- 'bastionlaw04.NfcParts', WHERE WHAT IT READS IS OF BULK AT MOST 1048576: true; the input reads as it did. -/
def nfcPartsUptoRow : OpenClaim := { program := "ytbclodbneonipaagreat", sum := "f20fd207283eaf3b96713a2b0b31df0eb19fb35c45185401786409d3c6969d3c", func := "bastion/bastionlaw04.NfcParts", spec := "nfcParts", inPlace := ["internal/abi.NoEscape", "internal/bytealg.MakeNoZero"], unfollowed := true, recurses := true, plainKeys := false, apart := false, narrowed := true }
def NfcPartsUptoSaid : Prop := nfcPartsUptoRow.holds Tryz.pinned (OpenSpec.upto nfcPartsSpec)

/-- 'bastionlaw04.NfcFew', WHERE WHAT IT READS IS OF BULK AT MOST 1048576: true; the input reads as it did. -/
def nfcFewUptoRow : OpenClaim := { program := "ytbclodbneonipaagreat", sum := "f20fd207283eaf3b96713a2b0b31df0eb19fb35c45185401786409d3c6969d3c", func := "bastion/bastionlaw04.NfcFew", spec := "nfcFew", inPlace := ["internal/abi.NoEscape", "internal/bytealg.MakeNoZero"], unfollowed := true, recurses := true, plainKeys := false, apart := false, narrowed := true }
def NfcFewUptoSaid : Prop := nfcFewUptoRow.holds Tryz.pinned (OpenSpec.upto nfcFewSpec)

end Rows
end Go.Proofs.YtbclodbneonipaaGreat
