/-
  No cell of these rows narrows 'for every input' (looked for: loops, veiled, ifaces, maps, wideKeys, modest, calm, conditions, laid).
  DERIVED. THE GIVEN ROWS OF THIS SEAT. 9 by the template 'for every input the law returns true; each argument reads behind the call as it read before'; 0 by the template 'total and deterministic' (their statements: YtghghkfhcpldhaaTotals.lean).
  GIVEN WITH THE SEED: the statements are not yours to turn. If you find one false, say at which input.
  Laid BY PROGRAM, IN A SANDBOX (cutbox-rows.mjs): the forced cells as the released guide's own fill.sh prints them over the translation 5e384aebd38cd08f… (all of the seat's roots in one cut). By AI agents, Wed Nov 11 2026. No macro, syntax, notation, axiom, sorry.
-/
import Derived.Test.YtghghkfhcpldhaaChecked
import GoSem.Claim
import GoSem.ClaimJoined
import GoSem.ClaimMapViews
import Derived.JoinedTies
import Derived.KernelRfl
namespace Go.Proofs.Ytghghkfhcpldhaa
/- THE CELL 'sum', in the pinned program and in every row, IS THE sha256 OF THE DUMP (.gsa) THAT YtghghkfhcpldhaaProg.lean LOADS. Nothing in Lean hashes anything: it is a label: what it is worth is what the hold of that sum in a sandbox is worth. -/
noncomputable def Try.pinned : Pinned := { name := "ytghghkfhcpldhaa", sum := "5e384aebd38cd08f85a3c569f7728a3cf3c8628401a77040f78521e033ce308e", checked := Try.checked }
namespace Rows
def none {H : Type} : Left H := { results := [], args := [] }

/-- 'laws.FnExactBitsOf': WHATEVER THE INPUT: true; the input reads as it did. -/
def fnExactBitsOfSpec : ChangeSpec := { name := "fnExactBitsOf", fn := fun _ => fun
  | [d1, d2] => { results := [.lit (.bool true)], args := [d1, d2] }
  | _ => none }
def fnExactBitsOfRow : OpenClaim := { program := "ytghghkfhcpldhaa", sum := "5e384aebd38cd08f85a3c569f7728a3cf3c8628401a77040f78521e033ce308e", func := "loop.example/g00550/laws.FnExactBitsOf", spec := "fnExactBitsOf", apart := false }
def FnExactBitsOfSaid : Prop := fnExactBitsOfRow.holds Try.pinned (OpenSpec.ofChange fnExactBitsOfSpec)

/-- ITS FALSE NEIGHBOUR: 'it returns false'. Refute it at one input. -/
def fnExactBitsOfWrong : ChangeSpec := { name := "fnExactBitsOf", fn := fun _ => fun
  | [d1, d2] => { results := [.lit (.bool false)], args := [d1, d2] }
  | _ => none }
def FnExactBitsOfWrongFalsely : Prop := fnExactBitsOfRow.holds Try.pinned (OpenSpec.ofChange fnExactBitsOfWrong)

/-- 'laws.FnExactBitsPack': WHATEVER THE INPUT: true; the input reads as it did. -/
def fnExactBitsPackSpec : ChangeSpec := { name := "fnExactBitsPack", fn := fun _ => fun
  | [d] => { results := [.lit (.bool true)], args := [d] }
  | _ => none }
def fnExactBitsPackRow : OpenClaim := { program := "ytghghkfhcpldhaa", sum := "5e384aebd38cd08f85a3c569f7728a3cf3c8628401a77040f78521e033ce308e", func := "loop.example/g00550/laws.FnExactBitsPack", spec := "fnExactBitsPack", apart := false }
def FnExactBitsPackSaid : Prop := fnExactBitsPackRow.holds Try.pinned (OpenSpec.ofChange fnExactBitsPackSpec)

/-- ITS FALSE NEIGHBOUR: 'it returns false'. Refute it at one input. -/
def fnExactBitsPackWrong : ChangeSpec := { name := "fnExactBitsPack", fn := fun _ => fun
  | [d] => { results := [.lit (.bool false)], args := [d] }
  | _ => none }
def FnExactBitsPackWrongFalsely : Prop := fnExactBitsPackRow.holds Try.pinned (OpenSpec.ofChange fnExactBitsPackWrong)

/-- 'laws.FnExactBitsOpen': WHATEVER THE INPUT: true; the input reads as it did. -/
def fnExactBitsOpenSpec : ChangeSpec := { name := "fnExactBitsOpen", fn := fun _ => fun
  | [d1, d2] => { results := [.lit (.bool true)], args := [d1, d2] }
  | _ => none }
def fnExactBitsOpenRow : OpenClaim := { program := "ytghghkfhcpldhaa", sum := "5e384aebd38cd08f85a3c569f7728a3cf3c8628401a77040f78521e033ce308e", func := "loop.example/g00550/laws.FnExactBitsOpen", spec := "fnExactBitsOpen", apart := false }
def FnExactBitsOpenSaid : Prop := fnExactBitsOpenRow.holds Try.pinned (OpenSpec.ofChange fnExactBitsOpenSpec)

/-- ITS FALSE NEIGHBOUR: 'it returns false'. Refute it at one input. -/
def fnExactBitsOpenWrong : ChangeSpec := { name := "fnExactBitsOpen", fn := fun _ => fun
  | [d1, d2] => { results := [.lit (.bool false)], args := [d1, d2] }
  | _ => none }
def FnExactBitsOpenWrongFalsely : Prop := fnExactBitsOpenRow.holds Try.pinned (OpenSpec.ofChange fnExactBitsOpenWrong)

/-- 'laws.FnExactLengthsOf': WHATEVER THE INPUT: true; the input reads as it did. -/
def fnExactLengthsOfSpec : ChangeSpec := { name := "fnExactLengthsOf", fn := fun _ => fun
  | [d] => { results := [.lit (.bool true)], args := [d] }
  | _ => none }
def fnExactLengthsOfRow : OpenClaim := { program := "ytghghkfhcpldhaa", sum := "5e384aebd38cd08f85a3c569f7728a3cf3c8628401a77040f78521e033ce308e", func := "loop.example/g00550/laws.FnExactLengthsOf", spec := "fnExactLengthsOf", unfollowed := true, recurses := true, apart := false }
def FnExactLengthsOfSaid : Prop := fnExactLengthsOfRow.holds Try.pinned (OpenSpec.ofChange fnExactLengthsOfSpec)

/-- ITS FALSE NEIGHBOUR: 'it returns false'. Refute it at one input. -/
def fnExactLengthsOfWrong : ChangeSpec := { name := "fnExactLengthsOf", fn := fun _ => fun
  | [d] => { results := [.lit (.bool false)], args := [d] }
  | _ => none }
def FnExactLengthsOfWrongFalsely : Prop := fnExactLengthsOfRow.holds Try.pinned (OpenSpec.ofChange fnExactLengthsOfWrong)

/-- 'laws.FnExactCodesOf': WHATEVER THE INPUT: true; the input reads as it did. -/
def fnExactCodesOfSpec : ChangeSpec := { name := "fnExactCodesOf", fn := fun _ => fun
  | [d] => { results := [.lit (.bool true)], args := [d] }
  | _ => none }
def fnExactCodesOfRow : OpenClaim := { program := "ytghghkfhcpldhaa", sum := "5e384aebd38cd08f85a3c569f7728a3cf3c8628401a77040f78521e033ce308e", func := "loop.example/g00550/laws.FnExactCodesOf", spec := "fnExactCodesOf", apart := false }
def FnExactCodesOfSaid : Prop := fnExactCodesOfRow.holds Try.pinned (OpenSpec.ofChange fnExactCodesOfSpec)

/-- ITS FALSE NEIGHBOUR: 'it returns false'. Refute it at one input. -/
def fnExactCodesOfWrong : ChangeSpec := { name := "fnExactCodesOf", fn := fun _ => fun
  | [d] => { results := [.lit (.bool false)], args := [d] }
  | _ => none }
def FnExactCodesOfWrongFalsely : Prop := fnExactCodesOfRow.holds Try.pinned (OpenSpec.ofChange fnExactCodesOfWrong)

/-- 'laws.FnExactWhole': WHATEVER THE INPUT: true; the input reads as it did. -/
def fnExactWholeSpec : ChangeSpec := { name := "fnExactWhole", fn := fun _ => fun
  | [d] => { results := [.lit (.bool true)], args := [d] }
  | _ => none }
def fnExactWholeRow : OpenClaim := { program := "ytghghkfhcpldhaa", sum := "5e384aebd38cd08f85a3c569f7728a3cf3c8628401a77040f78521e033ce308e", func := "loop.example/g00550/laws.FnExactWhole", spec := "fnExactWhole", apart := false }
def FnExactWholeSaid : Prop := fnExactWholeRow.holds Try.pinned (OpenSpec.ofChange fnExactWholeSpec)

/-- ITS FALSE NEIGHBOUR: 'it returns false'. Refute it at one input. -/
def fnExactWholeWrong : ChangeSpec := { name := "fnExactWhole", fn := fun _ => fun
  | [d] => { results := [.lit (.bool false)], args := [d] }
  | _ => none }
def FnExactWholeWrongFalsely : Prop := fnExactWholeRow.holds Try.pinned (OpenSpec.ofChange fnExactWholeWrong)

/-- 'laws.FnExactCodePut': WHATEVER THE INPUT: true; the input reads as it did. -/
def fnExactCodePutSpec : ChangeSpec := { name := "fnExactCodePut", fn := fun _ => fun
  | [d1, d2] => { results := [.lit (.bool true)], args := [d1, d2] }
  | _ => none }
def fnExactCodePutRow : OpenClaim := { program := "ytghghkfhcpldhaa", sum := "5e384aebd38cd08f85a3c569f7728a3cf3c8628401a77040f78521e033ce308e", func := "loop.example/g00550/laws.FnExactCodePut", spec := "fnExactCodePut", inPlace := ["internal/abi.NoEscape"], apart := false }
def FnExactCodePutSaid : Prop := fnExactCodePutRow.holds Try.pinned (OpenSpec.ofChange fnExactCodePutSpec)

/-- ITS FALSE NEIGHBOUR: 'it returns false'. Refute it at one input. -/
def fnExactCodePutWrong : ChangeSpec := { name := "fnExactCodePut", fn := fun _ => fun
  | [d1, d2] => { results := [.lit (.bool false)], args := [d1, d2] }
  | _ => none }
def FnExactCodePutWrongFalsely : Prop := fnExactCodePutRow.holds Try.pinned (OpenSpec.ofChange fnExactCodePutWrong)

/-- 'laws.FnExactCodeGet': WHATEVER THE INPUT: true; the input reads as it did. -/
def fnExactCodeGetSpec : ChangeSpec := { name := "fnExactCodeGet", fn := fun _ => fun
  | [d1, d2, d3] => { results := [.lit (.bool true)], args := [d1, d2, d3] }
  | _ => none }
def fnExactCodeGetRow : OpenClaim := { program := "ytghghkfhcpldhaa", sum := "5e384aebd38cd08f85a3c569f7728a3cf3c8628401a77040f78521e033ce308e", func := "loop.example/g00550/laws.FnExactCodeGet", spec := "fnExactCodeGet", apart := false }
def FnExactCodeGetSaid : Prop := fnExactCodeGetRow.holds Try.pinned (OpenSpec.ofChange fnExactCodeGetSpec)

/-- ITS FALSE NEIGHBOUR: 'it returns false'. Refute it at one input. -/
def fnExactCodeGetWrong : ChangeSpec := { name := "fnExactCodeGet", fn := fun _ => fun
  | [d1, d2, d3] => { results := [.lit (.bool false)], args := [d1, d2, d3] }
  | _ => none }
def FnExactCodeGetWrongFalsely : Prop := fnExactCodeGetRow.holds Try.pinned (OpenSpec.ofChange fnExactCodeGetWrong)

/-- 'laws.FnCode': WHATEVER THE INPUT: true; the input reads as it did. -/
def fnCodeSpec : ChangeSpec := { name := "fnCode", fn := fun _ => fun
  | [d1, d2] => { results := [.lit (.bool true)], args := [d1, d2] }
  | _ => none }
def fnCodeRow : OpenClaim := { program := "ytghghkfhcpldhaa", sum := "5e384aebd38cd08f85a3c569f7728a3cf3c8628401a77040f78521e033ce308e", func := "loop.example/g00550/laws.FnCode", spec := "fnCode", inPlace := ["internal/abi.NoEscape"], unfollowed := true, recurses := true, apart := false }
def FnCodeSaid : Prop := fnCodeRow.holds Try.pinned (OpenSpec.ofChange fnCodeSpec)

/-- ITS FALSE NEIGHBOUR: 'it returns false'. Refute it at one input. -/
def fnCodeWrong : ChangeSpec := { name := "fnCode", fn := fun _ => fun
  | [d1, d2] => { results := [.lit (.bool false)], args := [d1, d2] }
  | _ => none }
def FnCodeWrongFalsely : Prop := fnCodeRow.holds Try.pinned (OpenSpec.ofChange fnCodeWrong)

/- THE SECOND FORM. 'bulk': how many values and letters a reading holds, each counted each time it is reached (what is shared counts as often as it is met; a slice's spare places count too). A statement '..UptoSaid' is the law's where the arguments, and the package variables that the reading takes, are together of bulk at most 1048576: NARROWER than '..Said'. Prove '..Said' where nothing that the law and all that it calls make is longer than what came in: it says more and counts as full. Else prove '..UptoSaid'. A law counts once. -/
mutual
def uptoBulk {H : Type} : DataW H → Nat
  | .lit (.string bytes) => bytes.length + 1
  | .lit _ => 1
  | .nil => 1
  | .ptr d => uptoBulk d + 1
  | .slice elems spare => uptoBulkAll elems + uptoBulkAll spare + 1
  | .agg parts => uptoBulkAll parts + 1
  | .iface _ d => uptoBulk d + 1
  | .map entries => uptoBulkEntries entries + 1
  | .held _ => 1
def uptoBulkAll {H : Type} : List (DataW H) → Nat
  | [] => 0
  | d :: r => uptoBulk d + uptoBulkAll r
def uptoBulkEntries {H : Type} : List (Lit × DataW H) → Nat
  | [] => 0
  | x :: r => uptoBulkEntry x + uptoBulkEntries r
def uptoBulkEntry {H : Type} : Lit × DataW H → Nat
  | (.string bytes, d) => bytes.length + uptoBulk d + 1
  | (_, d) => uptoBulk d + 1
 end
def uptoSmall : (H : Type) → List (DataW H) → Bool := fun _ ds => decide (uptoBulkAll ds ≤ 1048576)
def OpenSpec.upto (s : _root_.Go.ChangeSpec) : _root_.Go.OpenSpec := { _root_.Go.OpenSpec.ofChange s with cond := some uptoSmall }

/-- 'laws.FnExactBitsOf', WHERE WHAT IT READS IS OF BULK AT MOST 1048576: true; the input reads as it did. -/
def fnExactBitsOfUptoRow : OpenClaim := { program := "ytghghkfhcpldhaa", sum := "5e384aebd38cd08f85a3c569f7728a3cf3c8628401a77040f78521e033ce308e", func := "loop.example/g00550/laws.FnExactBitsOf", spec := "fnExactBitsOf", apart := false, narrowed := true }
def FnExactBitsOfUptoSaid : Prop := fnExactBitsOfUptoRow.holds Try.pinned (OpenSpec.upto fnExactBitsOfSpec)

/-- 'laws.FnExactBitsPack', WHERE WHAT IT READS IS OF BULK AT MOST 1048576: true; the input reads as it did. -/
def fnExactBitsPackUptoRow : OpenClaim := { program := "ytghghkfhcpldhaa", sum := "5e384aebd38cd08f85a3c569f7728a3cf3c8628401a77040f78521e033ce308e", func := "loop.example/g00550/laws.FnExactBitsPack", spec := "fnExactBitsPack", apart := false, narrowed := true }
def FnExactBitsPackUptoSaid : Prop := fnExactBitsPackUptoRow.holds Try.pinned (OpenSpec.upto fnExactBitsPackSpec)

/-- 'laws.FnExactBitsOpen', WHERE WHAT IT READS IS OF BULK AT MOST 1048576: true; the input reads as it did. -/
def fnExactBitsOpenUptoRow : OpenClaim := { program := "ytghghkfhcpldhaa", sum := "5e384aebd38cd08f85a3c569f7728a3cf3c8628401a77040f78521e033ce308e", func := "loop.example/g00550/laws.FnExactBitsOpen", spec := "fnExactBitsOpen", apart := false, narrowed := true }
def FnExactBitsOpenUptoSaid : Prop := fnExactBitsOpenUptoRow.holds Try.pinned (OpenSpec.upto fnExactBitsOpenSpec)

/-- 'laws.FnExactLengthsOf', WHERE WHAT IT READS IS OF BULK AT MOST 1048576: true; the input reads as it did. -/
def fnExactLengthsOfUptoRow : OpenClaim := { program := "ytghghkfhcpldhaa", sum := "5e384aebd38cd08f85a3c569f7728a3cf3c8628401a77040f78521e033ce308e", func := "loop.example/g00550/laws.FnExactLengthsOf", spec := "fnExactLengthsOf", unfollowed := true, recurses := true, apart := false, narrowed := true }
def FnExactLengthsOfUptoSaid : Prop := fnExactLengthsOfUptoRow.holds Try.pinned (OpenSpec.upto fnExactLengthsOfSpec)

/-- 'laws.FnExactCodesOf', WHERE WHAT IT READS IS OF BULK AT MOST 1048576: true; the input reads as it did. -/
def fnExactCodesOfUptoRow : OpenClaim := { program := "ytghghkfhcpldhaa", sum := "5e384aebd38cd08f85a3c569f7728a3cf3c8628401a77040f78521e033ce308e", func := "loop.example/g00550/laws.FnExactCodesOf", spec := "fnExactCodesOf", apart := false, narrowed := true }
def FnExactCodesOfUptoSaid : Prop := fnExactCodesOfUptoRow.holds Try.pinned (OpenSpec.upto fnExactCodesOfSpec)

/-- 'laws.FnExactWhole', WHERE WHAT IT READS IS OF BULK AT MOST 1048576: true; the input reads as it did. -/
def fnExactWholeUptoRow : OpenClaim := { program := "ytghghkfhcpldhaa", sum := "5e384aebd38cd08f85a3c569f7728a3cf3c8628401a77040f78521e033ce308e", func := "loop.example/g00550/laws.FnExactWhole", spec := "fnExactWhole", apart := false, narrowed := true }
def FnExactWholeUptoSaid : Prop := fnExactWholeUptoRow.holds Try.pinned (OpenSpec.upto fnExactWholeSpec)

/-- 'laws.FnExactCodePut', WHERE WHAT IT READS IS OF BULK AT MOST 1048576: true; the input reads as it did. -/
def fnExactCodePutUptoRow : OpenClaim := { program := "ytghghkfhcpldhaa", sum := "5e384aebd38cd08f85a3c569f7728a3cf3c8628401a77040f78521e033ce308e", func := "loop.example/g00550/laws.FnExactCodePut", spec := "fnExactCodePut", inPlace := ["internal/abi.NoEscape"], apart := false, narrowed := true }
def FnExactCodePutUptoSaid : Prop := fnExactCodePutUptoRow.holds Try.pinned (OpenSpec.upto fnExactCodePutSpec)

/-- 'laws.FnExactCodeGet', WHERE WHAT IT READS IS OF BULK AT MOST 1048576: true; the input reads as it did. -/
def fnExactCodeGetUptoRow : OpenClaim := { program := "ytghghkfhcpldhaa", sum := "5e384aebd38cd08f85a3c569f7728a3cf3c8628401a77040f78521e033ce308e", func := "loop.example/g00550/laws.FnExactCodeGet", spec := "fnExactCodeGet", apart := false, narrowed := true }
def FnExactCodeGetUptoSaid : Prop := fnExactCodeGetUptoRow.holds Try.pinned (OpenSpec.upto fnExactCodeGetSpec)

/-- 'laws.FnCode', WHERE WHAT IT READS IS OF BULK AT MOST 1048576: true; the input reads as it did. -/
def fnCodeUptoRow : OpenClaim := { program := "ytghghkfhcpldhaa", sum := "5e384aebd38cd08f85a3c569f7728a3cf3c8628401a77040f78521e033ce308e", func := "loop.example/g00550/laws.FnCode", spec := "fnCode", inPlace := ["internal/abi.NoEscape"], unfollowed := true, recurses := true, apart := false, narrowed := true }
def FnCodeUptoSaid : Prop := fnCodeUptoRow.holds Try.pinned (OpenSpec.upto fnCodeSpec)

end Rows
end Go.Proofs.Ytghghkfhcpldhaa
