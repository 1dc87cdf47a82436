/-
  No cell of these rows narrows 'for every input' (looked for: loops, veiled, ifaces, maps, wideKeys, modest, calm, conditions, laid).
  DERIVED. THE GIVEN ROWS OF THIS SEAT. 14 by the template 'for every input the law returns true; each argument reads behind the call as it read before'; 0 by the template 'total and deterministic' (their statements: YtdnmbagdegbnfaaTotals.lean).
  GIVEN WITH THE SEED: the statements are not yours to turn. If you find one false, say at which input.
  Laid BY PROGRAM, IN A SANDBOX (cutbox-rows.mjs): the forced cells as the released guide's own fill.sh prints them over the translation eec0406ca35ed8b2… (all of the seat's roots in one cut). By AI agents, Wed Nov 11 2026. No macro, syntax, notation, axiom, sorry.
-/
import Derived.Test.YtdnmbagdegbnfaaChecked
import GoSem.Claim
import GoSem.ClaimJoined
import GoSem.ClaimMapViews
import Derived.JoinedTies
import Derived.KernelRfl
namespace Go.Proofs.Ytdnmbagdegbnfaa
/- THE CELL 'sum', in the pinned program and in every row, IS THE sha256 OF THE DUMP (.gsa) THAT YtdnmbagdegbnfaaProg.lean LOADS. Nothing in Lean hashes anything: it is a label: what it is worth is what the hold of that sum in a sandbox is worth. -/
noncomputable def Try.pinned : Pinned := { name := "ytdnmbagdegbnfaa", sum := "eec0406ca35ed8b2850a10bfac480e18492f06da35b8a458e49b0486a480f775", checked := Try.checked }
namespace Rows
def none {H : Type} : Left H := { results := [], args := [] }

/-- 'laws.FnCode': WHATEVER THE INPUT: true; the input reads as it did. -/
def fnCodeSpec : ChangeSpec := { name := "fnCode", fn := fun _ => fun
  | [d1, d2] => { results := [.lit (.bool true)], args := [d1, d2] }
  | _ => none }
def fnCodeRow : OpenClaim := { program := "ytdnmbagdegbnfaa", sum := "eec0406ca35ed8b2850a10bfac480e18492f06da35b8a458e49b0486a480f775", func := "loop.example/g00550/laws.FnCode", spec := "fnCode", inPlace := ["internal/abi.NoEscape"], unfollowed := true, recurses := true, apart := false }
def FnCodeSaid : Prop := fnCodeRow.holds Try.pinned (OpenSpec.ofChange fnCodeSpec)

/-- ITS FALSE NEIGHBOUR: 'it returns false'. Refute it at one input. -/
def fnCodeWrong : ChangeSpec := { name := "fnCode", fn := fun _ => fun
  | [d1, d2] => { results := [.lit (.bool false)], args := [d1, d2] }
  | _ => none }
def FnCodeWrongFalsely : Prop := fnCodeRow.holds Try.pinned (OpenSpec.ofChange fnCodeWrong)

/-- 'laws.FnSort': WHATEVER THE INPUT: true; the input reads as it did. -/
def fnSortSpec : ChangeSpec := { name := "fnSort", fn := fun _ => fun
  | [d1, d2] => { results := [.lit (.bool true)], args := [d1, d2] }
  | _ => none }
def fnSortRow : OpenClaim := { program := "ytdnmbagdegbnfaa", sum := "eec0406ca35ed8b2850a10bfac480e18492f06da35b8a458e49b0486a480f775", func := "loop.example/g00550/laws.FnSort", spec := "fnSort", unfollowed := true, recurses := true, apart := false }
def FnSortSaid : Prop := fnSortRow.holds Try.pinned (OpenSpec.ofChange fnSortSpec)

/-- ITS FALSE NEIGHBOUR: 'it returns false'. Refute it at one input. -/
def fnSortWrong : ChangeSpec := { name := "fnSort", fn := fun _ => fun
  | [d1, d2] => { results := [.lit (.bool false)], args := [d1, d2] }
  | _ => none }
def FnSortWrongFalsely : Prop := fnSortRow.holds Try.pinned (OpenSpec.ofChange fnSortWrong)

/-- 'laws.FnExactLengthsOf': WHATEVER THE INPUT: true; the input reads as it did. -/
def fnExactLengthsOfSpec : ChangeSpec := { name := "fnExactLengthsOf", fn := fun _ => fun
  | [d] => { results := [.lit (.bool true)], args := [d] }
  | _ => none }
def fnExactLengthsOfRow : OpenClaim := { program := "ytdnmbagdegbnfaa", sum := "eec0406ca35ed8b2850a10bfac480e18492f06da35b8a458e49b0486a480f775", func := "loop.example/g00550/laws.FnExactLengthsOf", spec := "fnExactLengthsOf", unfollowed := true, recurses := true, apart := false }
def FnExactLengthsOfSaid : Prop := fnExactLengthsOfRow.holds Try.pinned (OpenSpec.ofChange fnExactLengthsOfSpec)

/-- ITS FALSE NEIGHBOUR: 'it returns false'. Refute it at one input. -/
def fnExactLengthsOfWrong : ChangeSpec := { name := "fnExactLengthsOf", fn := fun _ => fun
  | [d] => { results := [.lit (.bool false)], args := [d] }
  | _ => none }
def FnExactLengthsOfWrongFalsely : Prop := fnExactLengthsOfRow.holds Try.pinned (OpenSpec.ofChange fnExactLengthsOfWrong)

/-- 'laws.FnExactCodesOf': WHATEVER THE INPUT: true; the input reads as it did. -/
def fnExactCodesOfSpec : ChangeSpec := { name := "fnExactCodesOf", fn := fun _ => fun
  | [d] => { results := [.lit (.bool true)], args := [d] }
  | _ => none }
def fnExactCodesOfRow : OpenClaim := { program := "ytdnmbagdegbnfaa", sum := "eec0406ca35ed8b2850a10bfac480e18492f06da35b8a458e49b0486a480f775", func := "loop.example/g00550/laws.FnExactCodesOf", spec := "fnExactCodesOf", apart := false }
def FnExactCodesOfSaid : Prop := fnExactCodesOfRow.holds Try.pinned (OpenSpec.ofChange fnExactCodesOfSpec)

/-- ITS FALSE NEIGHBOUR: 'it returns false'. Refute it at one input. -/
def fnExactCodesOfWrong : ChangeSpec := { name := "fnExactCodesOf", fn := fun _ => fun
  | [d] => { results := [.lit (.bool false)], args := [d] }
  | _ => none }
def FnExactCodesOfWrongFalsely : Prop := fnExactCodesOfRow.holds Try.pinned (OpenSpec.ofChange fnExactCodesOfWrong)

/-- 'laws.FnExactWhole': WHATEVER THE INPUT: true; the input reads as it did. -/
def fnExactWholeSpec : ChangeSpec := { name := "fnExactWhole", fn := fun _ => fun
  | [d] => { results := [.lit (.bool true)], args := [d] }
  | _ => none }
def fnExactWholeRow : OpenClaim := { program := "ytdnmbagdegbnfaa", sum := "eec0406ca35ed8b2850a10bfac480e18492f06da35b8a458e49b0486a480f775", func := "loop.example/g00550/laws.FnExactWhole", spec := "fnExactWhole", apart := false }
def FnExactWholeSaid : Prop := fnExactWholeRow.holds Try.pinned (OpenSpec.ofChange fnExactWholeSpec)

/-- ITS FALSE NEIGHBOUR: 'it returns false'. Refute it at one input. -/
def fnExactWholeWrong : ChangeSpec := { name := "fnExactWhole", fn := fun _ => fun
  | [d] => { results := [.lit (.bool false)], args := [d] }
  | _ => none }
def FnExactWholeWrongFalsely : Prop := fnExactWholeRow.holds Try.pinned (OpenSpec.ofChange fnExactWholeWrong)

/-- 'laws.FnExactCodePut': WHATEVER THE INPUT: true; the input reads as it did. -/
def fnExactCodePutSpec : ChangeSpec := { name := "fnExactCodePut", fn := fun _ => fun
  | [d1, d2] => { results := [.lit (.bool true)], args := [d1, d2] }
  | _ => none }
def fnExactCodePutRow : OpenClaim := { program := "ytdnmbagdegbnfaa", sum := "eec0406ca35ed8b2850a10bfac480e18492f06da35b8a458e49b0486a480f775", func := "loop.example/g00550/laws.FnExactCodePut", spec := "fnExactCodePut", inPlace := ["internal/abi.NoEscape"], apart := false }
def FnExactCodePutSaid : Prop := fnExactCodePutRow.holds Try.pinned (OpenSpec.ofChange fnExactCodePutSpec)

/-- ITS FALSE NEIGHBOUR: 'it returns false'. Refute it at one input. -/
def fnExactCodePutWrong : ChangeSpec := { name := "fnExactCodePut", fn := fun _ => fun
  | [d1, d2] => { results := [.lit (.bool false)], args := [d1, d2] }
  | _ => none }
def FnExactCodePutWrongFalsely : Prop := fnExactCodePutRow.holds Try.pinned (OpenSpec.ofChange fnExactCodePutWrong)

/-- 'laws.FnExactCodeGet': WHATEVER THE INPUT: true; the input reads as it did. -/
def fnExactCodeGetSpec : ChangeSpec := { name := "fnExactCodeGet", fn := fun _ => fun
  | [d1, d2, d3] => { results := [.lit (.bool true)], args := [d1, d2, d3] }
  | _ => none }
def fnExactCodeGetRow : OpenClaim := { program := "ytdnmbagdegbnfaa", sum := "eec0406ca35ed8b2850a10bfac480e18492f06da35b8a458e49b0486a480f775", func := "loop.example/g00550/laws.FnExactCodeGet", spec := "fnExactCodeGet", apart := false }
def FnExactCodeGetSaid : Prop := fnExactCodeGetRow.holds Try.pinned (OpenSpec.ofChange fnExactCodeGetSpec)

/-- ITS FALSE NEIGHBOUR: 'it returns false'. Refute it at one input. -/
def fnExactCodeGetWrong : ChangeSpec := { name := "fnExactCodeGet", fn := fun _ => fun
  | [d1, d2, d3] => { results := [.lit (.bool false)], args := [d1, d2, d3] }
  | _ => none }
def FnExactCodeGetWrongFalsely : Prop := fnExactCodeGetRow.holds Try.pinned (OpenSpec.ofChange fnExactCodeGetWrong)

/-- 'laws.FnExactOrderOf': WHATEVER THE INPUT: true; the input reads as it did. -/
def fnExactOrderOfSpec : ChangeSpec := { name := "fnExactOrderOf", fn := fun _ => fun
  | [d] => { results := [.lit (.bool true)], args := [d] }
  | _ => none }
def fnExactOrderOfRow : OpenClaim := { program := "ytdnmbagdegbnfaa", sum := "eec0406ca35ed8b2850a10bfac480e18492f06da35b8a458e49b0486a480f775", func := "loop.example/g00550/laws.FnExactOrderOf", spec := "fnExactOrderOf", unfollowed := true, recurses := true, apart := false }
def FnExactOrderOfSaid : Prop := fnExactOrderOfRow.holds Try.pinned (OpenSpec.ofChange fnExactOrderOfSpec)

/-- ITS FALSE NEIGHBOUR: 'it returns false'. Refute it at one input. -/
def fnExactOrderOfWrong : ChangeSpec := { name := "fnExactOrderOf", fn := fun _ => fun
  | [d] => { results := [.lit (.bool false)], args := [d] }
  | _ => none }
def FnExactOrderOfWrongFalsely : Prop := fnExactOrderOfRow.holds Try.pinned (OpenSpec.ofChange fnExactOrderOfWrong)

/-- 'laws.FnExactBwt': WHATEVER THE INPUT: true; the input reads as it did. -/
def fnExactBwtSpec : ChangeSpec := { name := "fnExactBwt", fn := fun _ => fun
  | [d] => { results := [.lit (.bool true)], args := [d] }
  | _ => none }
def fnExactBwtRow : OpenClaim := { program := "ytdnmbagdegbnfaa", sum := "eec0406ca35ed8b2850a10bfac480e18492f06da35b8a458e49b0486a480f775", func := "loop.example/g00550/laws.FnExactBwt", spec := "fnExactBwt", unfollowed := true, recurses := true, apart := false }
def FnExactBwtSaid : Prop := fnExactBwtRow.holds Try.pinned (OpenSpec.ofChange fnExactBwtSpec)

/-- ITS FALSE NEIGHBOUR: 'it returns false'. Refute it at one input. -/
def fnExactBwtWrong : ChangeSpec := { name := "fnExactBwt", fn := fun _ => fun
  | [d] => { results := [.lit (.bool false)], args := [d] }
  | _ => none }
def FnExactBwtWrongFalsely : Prop := fnExactBwtRow.holds Try.pinned (OpenSpec.ofChange fnExactBwtWrong)

/-- 'laws.FnExactUnbwt': WHATEVER THE INPUT: true; the input reads as it did. -/
def fnExactUnbwtSpec : ChangeSpec := { name := "fnExactUnbwt", fn := fun _ => fun
  | [d1, d2] => { results := [.lit (.bool true)], args := [d1, d2] }
  | _ => none }
def fnExactUnbwtRow : OpenClaim := { program := "ytdnmbagdegbnfaa", sum := "eec0406ca35ed8b2850a10bfac480e18492f06da35b8a458e49b0486a480f775", func := "loop.example/g00550/laws.FnExactUnbwt", spec := "fnExactUnbwt", unfollowed := true, recurses := true, apart := false }
def FnExactUnbwtSaid : Prop := fnExactUnbwtRow.holds Try.pinned (OpenSpec.ofChange fnExactUnbwtSpec)

/-- ITS FALSE NEIGHBOUR: 'it returns false'. Refute it at one input. -/
def fnExactUnbwtWrong : ChangeSpec := { name := "fnExactUnbwt", fn := fun _ => fun
  | [d1, d2] => { results := [.lit (.bool false)], args := [d1, d2] }
  | _ => none }
def FnExactUnbwtWrongFalsely : Prop := fnExactUnbwtRow.holds Try.pinned (OpenSpec.ofChange fnExactUnbwtWrong)

/-- 'laws.FnExactFrontOf': WHATEVER THE INPUT: true; the input reads as it did. -/
def fnExactFrontOfSpec : ChangeSpec := { name := "fnExactFrontOf", fn := fun _ => fun
  | [d] => { results := [.lit (.bool true)], args := [d] }
  | _ => none }
def fnExactFrontOfRow : OpenClaim := { program := "ytdnmbagdegbnfaa", sum := "eec0406ca35ed8b2850a10bfac480e18492f06da35b8a458e49b0486a480f775", func := "loop.example/g00550/laws.FnExactFrontOf", spec := "fnExactFrontOf", apart := false }
def FnExactFrontOfSaid : Prop := fnExactFrontOfRow.holds Try.pinned (OpenSpec.ofChange fnExactFrontOfSpec)

/-- ITS FALSE NEIGHBOUR: 'it returns false'. Refute it at one input. -/
def fnExactFrontOfWrong : ChangeSpec := { name := "fnExactFrontOf", fn := fun _ => fun
  | [d] => { results := [.lit (.bool false)], args := [d] }
  | _ => none }
def FnExactFrontOfWrongFalsely : Prop := fnExactFrontOfRow.holds Try.pinned (OpenSpec.ofChange fnExactFrontOfWrong)

/-- 'laws.FnExactFrontBack': WHATEVER THE INPUT: true; the input reads as it did. -/
def fnExactFrontBackSpec : ChangeSpec := { name := "fnExactFrontBack", fn := fun _ => fun
  | [d] => { results := [.lit (.bool true)], args := [d] }
  | _ => none }
def fnExactFrontBackRow : OpenClaim := { program := "ytdnmbagdegbnfaa", sum := "eec0406ca35ed8b2850a10bfac480e18492f06da35b8a458e49b0486a480f775", func := "loop.example/g00550/laws.FnExactFrontBack", spec := "fnExactFrontBack", apart := false }
def FnExactFrontBackSaid : Prop := fnExactFrontBackRow.holds Try.pinned (OpenSpec.ofChange fnExactFrontBackSpec)

/-- ITS FALSE NEIGHBOUR: 'it returns false'. Refute it at one input. -/
def fnExactFrontBackWrong : ChangeSpec := { name := "fnExactFrontBack", fn := fun _ => fun
  | [d] => { results := [.lit (.bool false)], args := [d] }
  | _ => none }
def FnExactFrontBackWrongFalsely : Prop := fnExactFrontBackRow.holds Try.pinned (OpenSpec.ofChange fnExactFrontBackWrong)

/-- 'laws.FnExactZerosOf': WHATEVER THE INPUT: true; the input reads as it did. -/
def fnExactZerosOfSpec : ChangeSpec := { name := "fnExactZerosOf", fn := fun _ => fun
  | [d] => { results := [.lit (.bool true)], args := [d] }
  | _ => none }
def fnExactZerosOfRow : OpenClaim := { program := "ytdnmbagdegbnfaa", sum := "eec0406ca35ed8b2850a10bfac480e18492f06da35b8a458e49b0486a480f775", func := "loop.example/g00550/laws.FnExactZerosOf", spec := "fnExactZerosOf", apart := false }
def FnExactZerosOfSaid : Prop := fnExactZerosOfRow.holds Try.pinned (OpenSpec.ofChange fnExactZerosOfSpec)

/-- ITS FALSE NEIGHBOUR: 'it returns false'. Refute it at one input. -/
def fnExactZerosOfWrong : ChangeSpec := { name := "fnExactZerosOf", fn := fun _ => fun
  | [d] => { results := [.lit (.bool false)], args := [d] }
  | _ => none }
def FnExactZerosOfWrongFalsely : Prop := fnExactZerosOfRow.holds Try.pinned (OpenSpec.ofChange fnExactZerosOfWrong)

/-- 'laws.FnExactZerosBack': WHATEVER THE INPUT: true; the input reads as it did. -/
def fnExactZerosBackSpec : ChangeSpec := { name := "fnExactZerosBack", fn := fun _ => fun
  | [d] => { results := [.lit (.bool true)], args := [d] }
  | _ => none }
def fnExactZerosBackRow : OpenClaim := { program := "ytdnmbagdegbnfaa", sum := "eec0406ca35ed8b2850a10bfac480e18492f06da35b8a458e49b0486a480f775", func := "loop.example/g00550/laws.FnExactZerosBack", spec := "fnExactZerosBack", apart := false }
def FnExactZerosBackSaid : Prop := fnExactZerosBackRow.holds Try.pinned (OpenSpec.ofChange fnExactZerosBackSpec)

/-- ITS FALSE NEIGHBOUR: 'it returns false'. Refute it at one input. -/
def fnExactZerosBackWrong : ChangeSpec := { name := "fnExactZerosBack", fn := fun _ => fun
  | [d] => { results := [.lit (.bool false)], args := [d] }
  | _ => none }
def FnExactZerosBackWrongFalsely : Prop := fnExactZerosBackRow.holds Try.pinned (OpenSpec.ofChange fnExactZerosBackWrong)

/- THE SECOND FORM. 'bulk': how many values and letters a reading holds, each counted each time it is reached (what is shared counts as often as it is met; a slice's spare places count too). A statement '..UptoSaid' is the law's where the arguments, and the package variables that the reading takes, are together of bulk at most 1048576: NARROWER than '..Said'. Prove '..Said' where nothing that the law and all that it calls make is longer than what came in: it says more and counts as full. Else prove '..UptoSaid'. A law counts once. -/
mutual
def uptoBulk {H : Type} : DataW H → Nat
  | .lit (.string bytes) => bytes.length + 1
  | .lit _ => 1
  | .nil => 1
  | .ptr d => uptoBulk d + 1
  | .slice elems spare => uptoBulkAll elems + uptoBulkAll spare + 1
  | .agg parts => uptoBulkAll parts + 1
  | .iface _ d => uptoBulk d + 1
  | .map entries => uptoBulkEntries entries + 1
  | .held _ => 1
def uptoBulkAll {H : Type} : List (DataW H) → Nat
  | [] => 0
  | d :: r => uptoBulk d + uptoBulkAll r
def uptoBulkEntries {H : Type} : List (Lit × DataW H) → Nat
  | [] => 0
  | x :: r => uptoBulkEntry x + uptoBulkEntries r
def uptoBulkEntry {H : Type} : Lit × DataW H → Nat
  | (.string bytes, d) => bytes.length + uptoBulk d + 1
  | (_, d) => uptoBulk d + 1
 end
def uptoSmall : (H : Type) → List (DataW H) → Bool := fun _ ds => decide (uptoBulkAll ds ≤ 1048576)
def OpenSpec.upto (s : _root_.Go.ChangeSpec) : _root_.Go.OpenSpec := { _root_.Go.OpenSpec.ofChange s with cond := some uptoSmall }

/-- 'laws.FnCode', WHERE WHAT IT READS IS OF BULK AT MOST 1048576: true; the input reads as it did. -/
def fnCodeUptoRow : OpenClaim := { program := "ytdnmbagdegbnfaa", sum := "eec0406ca35ed8b2850a10bfac480e18492f06da35b8a458e49b0486a480f775", func := "loop.example/g00550/laws.FnCode", spec := "fnCode", inPlace := ["internal/abi.NoEscape"], unfollowed := true, recurses := true, apart := false, narrowed := true }
def FnCodeUptoSaid : Prop := fnCodeUptoRow.holds Try.pinned (OpenSpec.upto fnCodeSpec)

/-- 'laws.FnSort', WHERE WHAT IT READS IS OF BULK AT MOST 1048576: true; the input reads as it did. -/
def fnSortUptoRow : OpenClaim := { program := "ytdnmbagdegbnfaa", sum := "eec0406ca35ed8b2850a10bfac480e18492f06da35b8a458e49b0486a480f775", func := "loop.example/g00550/laws.FnSort", spec := "fnSort", unfollowed := true, recurses := true, apart := false, narrowed := true }
def FnSortUptoSaid : Prop := fnSortUptoRow.holds Try.pinned (OpenSpec.upto fnSortSpec)

/-- 'laws.FnExactLengthsOf', WHERE WHAT IT READS IS OF BULK AT MOST 1048576: true; the input reads as it did. -/
def fnExactLengthsOfUptoRow : OpenClaim := { program := "ytdnmbagdegbnfaa", sum := "eec0406ca35ed8b2850a10bfac480e18492f06da35b8a458e49b0486a480f775", func := "loop.example/g00550/laws.FnExactLengthsOf", spec := "fnExactLengthsOf", unfollowed := true, recurses := true, apart := false, narrowed := true }
def FnExactLengthsOfUptoSaid : Prop := fnExactLengthsOfUptoRow.holds Try.pinned (OpenSpec.upto fnExactLengthsOfSpec)

/-- 'laws.FnExactCodesOf', WHERE WHAT IT READS IS OF BULK AT MOST 1048576: true; the input reads as it did. -/
def fnExactCodesOfUptoRow : OpenClaim := { program := "ytdnmbagdegbnfaa", sum := "eec0406ca35ed8b2850a10bfac480e18492f06da35b8a458e49b0486a480f775", func := "loop.example/g00550/laws.FnExactCodesOf", spec := "fnExactCodesOf", apart := false, narrowed := true }
def FnExactCodesOfUptoSaid : Prop := fnExactCodesOfUptoRow.holds Try.pinned (OpenSpec.upto fnExactCodesOfSpec)

/-- 'laws.FnExactWhole', WHERE WHAT IT READS IS OF BULK AT MOST 1048576: true; the input reads as it did. -/
def fnExactWholeUptoRow : OpenClaim := { program := "ytdnmbagdegbnfaa", sum := "eec0406ca35ed8b2850a10bfac480e18492f06da35b8a458e49b0486a480f775", func := "loop.example/g00550/laws.FnExactWhole", spec := "fnExactWhole", apart := false, narrowed := true }
def FnExactWholeUptoSaid : Prop := fnExactWholeUptoRow.holds Try.pinned (OpenSpec.upto fnExactWholeSpec)

/-- 'laws.FnExactCodePut', WHERE WHAT IT READS IS OF BULK AT MOST 1048576: true; the input reads as it did. -/
def fnExactCodePutUptoRow : OpenClaim := { program := "ytdnmbagdegbnfaa", sum := "eec0406ca35ed8b2850a10bfac480e18492f06da35b8a458e49b0486a480f775", func := "loop.example/g00550/laws.FnExactCodePut", spec := "fnExactCodePut", inPlace := ["internal/abi.NoEscape"], apart := false, narrowed := true }
def FnExactCodePutUptoSaid : Prop := fnExactCodePutUptoRow.holds Try.pinned (OpenSpec.upto fnExactCodePutSpec)

/-- 'laws.FnExactCodeGet', WHERE WHAT IT READS IS OF BULK AT MOST 1048576: true; the input reads as it did. -/
def fnExactCodeGetUptoRow : OpenClaim := { program := "ytdnmbagdegbnfaa", sum := "eec0406ca35ed8b2850a10bfac480e18492f06da35b8a458e49b0486a480f775", func := "loop.example/g00550/laws.FnExactCodeGet", spec := "fnExactCodeGet", apart := false, narrowed := true }
def FnExactCodeGetUptoSaid : Prop := fnExactCodeGetUptoRow.holds Try.pinned (OpenSpec.upto fnExactCodeGetSpec)

/-- 'laws.FnExactOrderOf', WHERE WHAT IT READS IS OF BULK AT MOST 1048576: true; the input reads as it did. -/
def fnExactOrderOfUptoRow : OpenClaim := { program := "ytdnmbagdegbnfaa", sum := "eec0406ca35ed8b2850a10bfac480e18492f06da35b8a458e49b0486a480f775", func := "loop.example/g00550/laws.FnExactOrderOf", spec := "fnExactOrderOf", unfollowed := true, recurses := true, apart := false, narrowed := true }
def FnExactOrderOfUptoSaid : Prop := fnExactOrderOfUptoRow.holds Try.pinned (OpenSpec.upto fnExactOrderOfSpec)

/-- 'laws.FnExactBwt', WHERE WHAT IT READS IS OF BULK AT MOST 1048576: true; the input reads as it did. -/
def fnExactBwtUptoRow : OpenClaim := { program := "ytdnmbagdegbnfaa", sum := "eec0406ca35ed8b2850a10bfac480e18492f06da35b8a458e49b0486a480f775", func := "loop.example/g00550/laws.FnExactBwt", spec := "fnExactBwt", unfollowed := true, recurses := true, apart := false, narrowed := true }
def FnExactBwtUptoSaid : Prop := fnExactBwtUptoRow.holds Try.pinned (OpenSpec.upto fnExactBwtSpec)

/-- 'laws.FnExactUnbwt', WHERE WHAT IT READS IS OF BULK AT MOST 1048576: true; the input reads as it did. -/
def fnExactUnbwtUptoRow : OpenClaim := { program := "ytdnmbagdegbnfaa", sum := "eec0406ca35ed8b2850a10bfac480e18492f06da35b8a458e49b0486a480f775", func := "loop.example/g00550/laws.FnExactUnbwt", spec := "fnExactUnbwt", unfollowed := true, recurses := true, apart := false, narrowed := true }
def FnExactUnbwtUptoSaid : Prop := fnExactUnbwtUptoRow.holds Try.pinned (OpenSpec.upto fnExactUnbwtSpec)

/-- 'laws.FnExactFrontOf', WHERE WHAT IT READS IS OF BULK AT MOST 1048576: true; the input reads as it did. -/
def fnExactFrontOfUptoRow : OpenClaim := { program := "ytdnmbagdegbnfaa", sum := "eec0406ca35ed8b2850a10bfac480e18492f06da35b8a458e49b0486a480f775", func := "loop.example/g00550/laws.FnExactFrontOf", spec := "fnExactFrontOf", apart := false, narrowed := true }
def FnExactFrontOfUptoSaid : Prop := fnExactFrontOfUptoRow.holds Try.pinned (OpenSpec.upto fnExactFrontOfSpec)

/-- 'laws.FnExactFrontBack', WHERE WHAT IT READS IS OF BULK AT MOST 1048576: true; the input reads as it did. -/
def fnExactFrontBackUptoRow : OpenClaim := { program := "ytdnmbagdegbnfaa", sum := "eec0406ca35ed8b2850a10bfac480e18492f06da35b8a458e49b0486a480f775", func := "loop.example/g00550/laws.FnExactFrontBack", spec := "fnExactFrontBack", apart := false, narrowed := true }
def FnExactFrontBackUptoSaid : Prop := fnExactFrontBackUptoRow.holds Try.pinned (OpenSpec.upto fnExactFrontBackSpec)

/-- 'laws.FnExactZerosOf', WHERE WHAT IT READS IS OF BULK AT MOST 1048576: true; the input reads as it did. -/
def fnExactZerosOfUptoRow : OpenClaim := { program := "ytdnmbagdegbnfaa", sum := "eec0406ca35ed8b2850a10bfac480e18492f06da35b8a458e49b0486a480f775", func := "loop.example/g00550/laws.FnExactZerosOf", spec := "fnExactZerosOf", apart := false, narrowed := true }
def FnExactZerosOfUptoSaid : Prop := fnExactZerosOfUptoRow.holds Try.pinned (OpenSpec.upto fnExactZerosOfSpec)

/-- 'laws.FnExactZerosBack', WHERE WHAT IT READS IS OF BULK AT MOST 1048576: true; the input reads as it did. -/
def fnExactZerosBackUptoRow : OpenClaim := { program := "ytdnmbagdegbnfaa", sum := "eec0406ca35ed8b2850a10bfac480e18492f06da35b8a458e49b0486a480f775", func := "loop.example/g00550/laws.FnExactZerosBack", spec := "fnExactZerosBack", apart := false, narrowed := true }
def FnExactZerosBackUptoSaid : Prop := fnExactZerosBackUptoRow.holds Try.pinned (OpenSpec.upto fnExactZerosBackSpec)

end Rows
end Go.Proofs.Ytdnmbagdegbnfaa
