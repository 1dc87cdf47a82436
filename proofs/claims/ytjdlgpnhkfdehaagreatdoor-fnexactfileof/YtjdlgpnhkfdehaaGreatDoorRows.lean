/-
  NARROWER THAN 'FOR EVERY INPUT', by the rows' own cells (each row's printed sentence says how): FnBlock: ifaces, laid · FnList: ifaces, laid · FnWay: laid · FnExactBlockUnpack: ifaces, laid · FnExactListOf: laid · FnExactFileOf: ifaces, laid.
  DERIVED. THE GIVEN ROWS OF THIS SEAT. 6 by the template 'for every input the law returns true; each argument reads behind the call as it read before'; 0 by the template 'total and deterministic' (their statements: YtjdlgpnhkfdehaaGreatDoorTotals.lean).
  GIVEN WITH THE SEED: the statements are not yours to turn. If you find one false, say at which input.
  Laid BY PROGRAM, IN A SANDBOX (cutbox-rows.mjs): the forced cells as the released guide's own fill.sh prints them over the translation cae349ae163d07d7… (all of the seat's roots in one cut). By AI agents, Wed Nov 11 2026. No macro, syntax, notation, axiom, sorry.
-/
import Derived.Test.YtjdlgpnhkfdehaaGreatDoorChecked
import GoSem.Claim
import GoSem.ClaimJoined
import GoSem.ClaimMapViews
import Derived.JoinedTies
import Derived.KernelRfl
namespace Go.Proofs.YtjdlgpnhkfdehaaGreatDoor
/- THE CELL 'sum', in the pinned program and in every row, IS THE sha256 OF THE DUMP (.gsa) THAT YtjdlgpnhkfdehaaGreatDoorProg.lean LOADS. Nothing in Lean hashes anything: it is a label: what it is worth is what the hold of that sum in a sandbox is worth. -/
noncomputable def Tryz.pinned : Pinned := { name := "ytjdlgpnhkfdehaagreatdoor", sum := "cae349ae163d07d72a1af9cc86ae5e0579537d75d323d01ab92120561ed12fa9", checked := Tryz.checked }
namespace Rows
def none {H : Type} : Left H := { results := [], args := [] }

/- WHAT THE LISTED PACKAGE-LEVEL VARIABLES READ AS WHEN THE CALL BEGINS. Each datum BY PROGRAM (the guide's laid-datum.mjs) off the statement by which the dump's own 'gosem.cut.vars' lays the variable. In a bare row this is a premise. The card (YtjdlgpnhkfdehaaGreatDoorCards.lean) ties it to the program's text. -/
def laid_loop_example_g00550_impl_errNoBlock {H : Type} : DataW H := .iface "*errors.errorString" (.ptr (.agg [.lit (.string [110, 111, 32, 98, 108, 111, 99, 107, 32, 109, 97, 100, 101, 32, 115, 104, 111, 114, 116])]))
def laid_errors_errorType {H : Type} : DataW H := .iface "internal/reflectlite.rtype" (.agg [.ptr (.lit (.string [101, 114, 114, 111, 114]))])
def laid_loop_example_g00550_impl_firstState {H : Type} : DataW H := .agg [.lit (.int .u32 1779033703), .lit (.int .u32 3144134277), .lit (.int .u32 1013904242), .lit (.int .u32 2773480762), .lit (.int .u32 1359893119), .lit (.int .u32 2600822924), .lit (.int .u32 528734635), .lit (.int .u32 1541459225)]
def laid_loop_example_g00550_impl_roundNumbers {H : Type} : DataW H := .agg [.lit (.int .u32 1116352408), .lit (.int .u32 1899447441), .lit (.int .u32 3049323471), .lit (.int .u32 3921009573), .lit (.int .u32 961987163), .lit (.int .u32 1508970993), .lit (.int .u32 2453635748), .lit (.int .u32 2870763221), .lit (.int .u32 3624381080), .lit (.int .u32 310598401), .lit (.int .u32 607225278), .lit (.int .u32 1426881987), .lit (.int .u32 1925078388), .lit (.int .u32 2162078206), .lit (.int .u32 2614888103), .lit (.int .u32 3248222580), .lit (.int .u32 3835390401), .lit (.int .u32 4022224774), .lit (.int .u32 264347078), .lit (.int .u32 604807628), .lit (.int .u32 770255983), .lit (.int .u32 1249150122), .lit (.int .u32 1555081692), .lit (.int .u32 1996064986), .lit (.int .u32 2554220882), .lit (.int .u32 2821834349), .lit (.int .u32 2952996808), .lit (.int .u32 3210313671), .lit (.int .u32 3336571891), .lit (.int .u32 3584528711), .lit (.int .u32 113926993), .lit (.int .u32 338241895), .lit (.int .u32 666307205), .lit (.int .u32 773529912), .lit (.int .u32 1294757372), .lit (.int .u32 1396182291), .lit (.int .u32 1695183700), .lit (.int .u32 1986661051), .lit (.int .u32 2177026350), .lit (.int .u32 2456956037), .lit (.int .u32 2730485921), .lit (.int .u32 2820302411), .lit (.int .u32 3259730800), .lit (.int .u32 3345764771), .lit (.int .u32 3516065817), .lit (.int .u32 3600352804), .lit (.int .u32 4094571909), .lit (.int .u32 275423344), .lit (.int .u32 430227734), .lit (.int .u32 506948616), .lit (.int .u32 659060556), .lit (.int .u32 883997877), .lit (.int .u32 958139571), .lit (.int .u32 1322822218), .lit (.int .u32 1537002063), .lit (.int .u32 1747873779), .lit (.int .u32 1955562222), .lit (.int .u32 2024104815), .lit (.int .u32 2227730452), .lit (.int .u32 2361852424), .lit (.int .u32 2428436474), .lit (.int .u32 2756734187), .lit (.int .u32 3204031479), .lit (.int .u32 3329325298)]

/-- 'laws.FnBlock': WHATEVER THE INPUT: true; the input reads as it did. -/
def fnBlockSpec : ChangeSpec := { name := "fnBlock", vars := ["loop.example/g00550/impl.errNoBlock"], fn := fun _ => fun
  | [d1, d2, g1] => { results := [.lit (.bool true)], args := [d1, d2], vars := [g1] }
  | _ => none }
def fnBlockRow : OpenClaim := { program := "ytjdlgpnhkfdehaagreatdoor", sum := "cae349ae163d07d72a1af9cc86ae5e0579537d75d323d01ab92120561ed12fa9", func := "loop.example/g00550/laws.FnBlock", spec := "fnBlock", inPlace := ["internal/abi.NoEscape", "internal/reflectlite.TypeOf"], unfollowed := true, recurses := true, named := ["loop.example/g00550/impl.errNoBlock"], ifaces := true, apart := false, laid := [("loop.example/g00550/impl.errNoBlock", laid_loop_example_g00550_impl_errNoBlock)] }
def FnBlockSaid : Prop := fnBlockRow.holds Tryz.pinned (OpenSpec.ofChange fnBlockSpec)

/-- ITS FALSE NEIGHBOUR: 'it returns false'. Refute it at one input. -/
def fnBlockWrong : ChangeSpec := { name := "fnBlock", vars := ["loop.example/g00550/impl.errNoBlock"], fn := fun _ => fun
  | [d1, d2, g1] => { results := [.lit (.bool false)], args := [d1, d2], vars := [g1] }
  | _ => none }
def FnBlockWrongFalsely : Prop := fnBlockRow.holds Tryz.pinned (OpenSpec.ofChange fnBlockWrong)

/-- 'laws.FnList': WHATEVER THE INPUT: true; the input reads as it did. -/
def fnListSpec : ChangeSpec := { name := "fnList", vars := ["loop.example/g00550/impl.firstState", "loop.example/g00550/impl.roundNumbers", "loop.example/g00550/impl.errNoBlock"], fn := fun _ => fun
  | [d1, d2, g1, g2, g3] => { results := [.lit (.bool true)], args := [d1, d2], vars := [g1, g2, g3] }
  | _ => none }
def fnListRow : OpenClaim := { program := "ytjdlgpnhkfdehaagreatdoor", sum := "cae349ae163d07d72a1af9cc86ae5e0579537d75d323d01ab92120561ed12fa9", func := "loop.example/g00550/laws.FnList", spec := "fnList", inPlace := ["internal/abi.NoEscape", "internal/reflectlite.ValueOf", "(internal/reflectlite.Value).Type", "(internal/reflectlite.Value).IsNil", "internal/reflectlite.TypeOf", "(internal/reflectlite.Value).Elem", "(internal/reflectlite.Value).Set"], unfollowed := true, recurses := true, named := ["loop.example/g00550/impl.firstState", "loop.example/g00550/impl.roundNumbers", "errors.errorType", "loop.example/g00550/impl.errNoBlock"], ifaces := true, apart := false, laid := [("errors.errorType", laid_errors_errorType), ("loop.example/g00550/impl.firstState", laid_loop_example_g00550_impl_firstState), ("loop.example/g00550/impl.roundNumbers", laid_loop_example_g00550_impl_roundNumbers), ("loop.example/g00550/impl.errNoBlock", laid_loop_example_g00550_impl_errNoBlock)] }
def FnListSaid : Prop := fnListRow.holds Tryz.pinned (OpenSpec.ofChange fnListSpec)

/-- ITS FALSE NEIGHBOUR: 'it returns false'. Refute it at one input. -/
def fnListWrong : ChangeSpec := { name := "fnList", vars := ["loop.example/g00550/impl.firstState", "loop.example/g00550/impl.roundNumbers", "loop.example/g00550/impl.errNoBlock"], fn := fun _ => fun
  | [d1, d2, g1, g2, g3] => { results := [.lit (.bool false)], args := [d1, d2], vars := [g1, g2, g3] }
  | _ => none }
def FnListWrongFalsely : Prop := fnListRow.holds Tryz.pinned (OpenSpec.ofChange fnListWrong)

/-- 'laws.FnWay': WHATEVER THE INPUT: true; the input reads as it did. -/
def fnWaySpec : ChangeSpec := { name := "fnWay", vars := ["loop.example/g00550/impl.firstState", "loop.example/g00550/impl.roundNumbers"], fn := fun _ => fun
  | [d, g1, g2] => { results := [.lit (.bool true)], args := [d], vars := [g1, g2] }
  | _ => none }
def fnWayRow : OpenClaim := { program := "ytjdlgpnhkfdehaagreatdoor", sum := "cae349ae163d07d72a1af9cc86ae5e0579537d75d323d01ab92120561ed12fa9", func := "loop.example/g00550/laws.FnWay", spec := "fnWay", inPlace := ["internal/abi.NoEscape"], unfollowed := true, recurses := true, named := ["loop.example/g00550/impl.firstState", "loop.example/g00550/impl.roundNumbers"], apart := false, laid := [("loop.example/g00550/impl.firstState", laid_loop_example_g00550_impl_firstState), ("loop.example/g00550/impl.roundNumbers", laid_loop_example_g00550_impl_roundNumbers)] }
def FnWaySaid : Prop := fnWayRow.holds Tryz.pinned (OpenSpec.ofChange fnWaySpec)

/-- ITS FALSE NEIGHBOUR: 'it returns false'. Refute it at one input. -/
def fnWayWrong : ChangeSpec := { name := "fnWay", vars := ["loop.example/g00550/impl.firstState", "loop.example/g00550/impl.roundNumbers"], fn := fun _ => fun
  | [d, g1, g2] => { results := [.lit (.bool false)], args := [d], vars := [g1, g2] }
  | _ => none }
def FnWayWrongFalsely : Prop := fnWayRow.holds Tryz.pinned (OpenSpec.ofChange fnWayWrong)

/-- 'laws.FnExactBlockUnpack': WHATEVER THE INPUT: true; the input reads as it did. -/
def fnExactBlockUnpackSpec : ChangeSpec := { name := "fnExactBlockUnpack", vars := ["loop.example/g00550/impl.errNoBlock"], fn := fun _ => fun
  | [d, g1] => { results := [.lit (.bool true)], args := [d], vars := [g1] }
  | _ => none }
def fnExactBlockUnpackRow : OpenClaim := { program := "ytjdlgpnhkfdehaagreatdoor", sum := "cae349ae163d07d72a1af9cc86ae5e0579537d75d323d01ab92120561ed12fa9", func := "loop.example/g00550/laws.FnExactBlockUnpack", spec := "fnExactBlockUnpack", inPlace := ["internal/reflectlite.TypeOf", "internal/abi.NoEscape"], unfollowed := true, recurses := true, named := ["loop.example/g00550/impl.errNoBlock"], ifaces := true, apart := false, laid := [("loop.example/g00550/impl.errNoBlock", laid_loop_example_g00550_impl_errNoBlock)] }
def FnExactBlockUnpackSaid : Prop := fnExactBlockUnpackRow.holds Tryz.pinned (OpenSpec.ofChange fnExactBlockUnpackSpec)

/-- ITS FALSE NEIGHBOUR: 'it returns false'. Refute it at one input. -/
def fnExactBlockUnpackWrong : ChangeSpec := { name := "fnExactBlockUnpack", vars := ["loop.example/g00550/impl.errNoBlock"], fn := fun _ => fun
  | [d, g1] => { results := [.lit (.bool false)], args := [d], vars := [g1] }
  | _ => none }
def FnExactBlockUnpackWrongFalsely : Prop := fnExactBlockUnpackRow.holds Tryz.pinned (OpenSpec.ofChange fnExactBlockUnpackWrong)

/-- 'laws.FnExactListOf': WHATEVER THE INPUT: true; the input reads as it did. -/
def fnExactListOfSpec : ChangeSpec := { name := "fnExactListOf", vars := ["loop.example/g00550/impl.firstState", "loop.example/g00550/impl.roundNumbers"], fn := fun _ => fun
  | [d1, d2, g1, g2] => { results := [.lit (.bool true)], args := [d1, d2], vars := [g1, g2] }
  | _ => none }
def fnExactListOfRow : OpenClaim := { program := "ytjdlgpnhkfdehaagreatdoor", sum := "cae349ae163d07d72a1af9cc86ae5e0579537d75d323d01ab92120561ed12fa9", func := "loop.example/g00550/laws.FnExactListOf", spec := "fnExactListOf", inPlace := ["internal/abi.NoEscape"], unfollowed := true, recurses := true, named := ["loop.example/g00550/impl.firstState", "loop.example/g00550/impl.roundNumbers"], apart := false, laid := [("loop.example/g00550/impl.firstState", laid_loop_example_g00550_impl_firstState), ("loop.example/g00550/impl.roundNumbers", laid_loop_example_g00550_impl_roundNumbers)] }
def FnExactListOfSaid : Prop := fnExactListOfRow.holds Tryz.pinned (OpenSpec.ofChange fnExactListOfSpec)

/-- ITS FALSE NEIGHBOUR: 'it returns false'. Refute it at one input. -/
def fnExactListOfWrong : ChangeSpec := { name := "fnExactListOf", vars := ["loop.example/g00550/impl.firstState", "loop.example/g00550/impl.roundNumbers"], fn := fun _ => fun
  | [d1, d2, g1, g2] => { results := [.lit (.bool false)], args := [d1, d2], vars := [g1, g2] }
  | _ => none }
def FnExactListOfWrongFalsely : Prop := fnExactListOfRow.holds Tryz.pinned (OpenSpec.ofChange fnExactListOfWrong)

/-- 'laws.FnExactFileOf': WHATEVER THE INPUT: true; the input reads as it did. -/
def fnExactFileOfSpec : ChangeSpec := { name := "fnExactFileOf", vars := ["loop.example/g00550/impl.errNoBlock"], fn := fun _ => fun
  | [d1, d2, g1] => { results := [.lit (.bool true)], args := [d1, d2], vars := [g1] }
  | _ => none }
def fnExactFileOfRow : OpenClaim := { program := "ytjdlgpnhkfdehaagreatdoor", sum := "cae349ae163d07d72a1af9cc86ae5e0579537d75d323d01ab92120561ed12fa9", func := "loop.example/g00550/laws.FnExactFileOf", spec := "fnExactFileOf", inPlace := ["internal/reflectlite.TypeOf", "internal/abi.NoEscape"], unfollowed := true, recurses := true, named := ["loop.example/g00550/impl.errNoBlock"], ifaces := true, apart := false, laid := [("loop.example/g00550/impl.errNoBlock", laid_loop_example_g00550_impl_errNoBlock)] }
def FnExactFileOfSaid : Prop := fnExactFileOfRow.holds Tryz.pinned (OpenSpec.ofChange fnExactFileOfSpec)

/-- ITS FALSE NEIGHBOUR: 'it returns false'. Refute it at one input. -/
def fnExactFileOfWrong : ChangeSpec := { name := "fnExactFileOf", vars := ["loop.example/g00550/impl.errNoBlock"], fn := fun _ => fun
  | [d1, d2, g1] => { results := [.lit (.bool false)], args := [d1, d2], vars := [g1] }
  | _ => none }
def FnExactFileOfWrongFalsely : Prop := fnExactFileOfRow.holds Tryz.pinned (OpenSpec.ofChange fnExactFileOfWrong)

/- THE SECOND FORM. 'bulk': how many values and letters a reading holds, each counted each time it is reached (what is shared counts as often as it is met; a slice's spare places count too). A statement '..UptoSaid' is the law's where the arguments, and the package variables that the reading takes, are together of bulk at most 1048576: NARROWER than '..Said'. Prove '..Said' where nothing that the law and all that it calls make is longer than what came in: it says more and counts as full. Else prove '..UptoSaid'. A law counts once. -/
mutual
def uptoBulk {H : Type} : DataW H → Nat
  | .lit (.string bytes) => bytes.length + 1
  | .lit _ => 1
  | .nil => 1
  | .ptr d => uptoBulk d + 1
  | .slice elems spare => uptoBulkAll elems + uptoBulkAll spare + 1
  | .agg parts => uptoBulkAll parts + 1
  | .iface _ d => uptoBulk d + 1
  | .map entries => uptoBulkEntries entries + 1
  | .held _ => 1
def uptoBulkAll {H : Type} : List (DataW H) → Nat
  | [] => 0
  | d :: r => uptoBulk d + uptoBulkAll r
def uptoBulkEntries {H : Type} : List (Lit × DataW H) → Nat
  | [] => 0
  | x :: r => uptoBulkEntry x + uptoBulkEntries r
def uptoBulkEntry {H : Type} : Lit × DataW H → Nat
  | (.string bytes, d) => bytes.length + uptoBulk d + 1
  | (_, d) => uptoBulk d + 1
 end
def uptoSmall : (H : Type) → List (DataW H) → Bool := fun _ ds => decide (uptoBulkAll ds ≤ 1048576)
def OpenSpec.upto (s : _root_.Go.ChangeSpec) : _root_.Go.OpenSpec := { _root_.Go.OpenSpec.ofChange s with cond := some uptoSmall }

/-- 'laws.FnBlock', WHERE WHAT IT READS IS OF BULK AT MOST 1048576: true; the input reads as it did. -/
def fnBlockUptoRow : OpenClaim := { program := "ytjdlgpnhkfdehaagreatdoor", sum := "cae349ae163d07d72a1af9cc86ae5e0579537d75d323d01ab92120561ed12fa9", func := "loop.example/g00550/laws.FnBlock", spec := "fnBlock", inPlace := ["internal/abi.NoEscape", "internal/reflectlite.TypeOf"], unfollowed := true, recurses := true, named := ["loop.example/g00550/impl.errNoBlock"], ifaces := true, apart := false, laid := [("loop.example/g00550/impl.errNoBlock", laid_loop_example_g00550_impl_errNoBlock)], narrowed := true }
def FnBlockUptoSaid : Prop := fnBlockUptoRow.holds Tryz.pinned (OpenSpec.upto fnBlockSpec)

/-- 'laws.FnList', WHERE WHAT IT READS IS OF BULK AT MOST 1048576: true; the input reads as it did. -/
def fnListUptoRow : OpenClaim := { program := "ytjdlgpnhkfdehaagreatdoor", sum := "cae349ae163d07d72a1af9cc86ae5e0579537d75d323d01ab92120561ed12fa9", func := "loop.example/g00550/laws.FnList", spec := "fnList", inPlace := ["internal/abi.NoEscape", "internal/reflectlite.ValueOf", "(internal/reflectlite.Value).Type", "(internal/reflectlite.Value).IsNil", "internal/reflectlite.TypeOf", "(internal/reflectlite.Value).Elem", "(internal/reflectlite.Value).Set"], unfollowed := true, recurses := true, named := ["loop.example/g00550/impl.firstState", "loop.example/g00550/impl.roundNumbers", "errors.errorType", "loop.example/g00550/impl.errNoBlock"], ifaces := true, apart := false, laid := [("errors.errorType", laid_errors_errorType), ("loop.example/g00550/impl.firstState", laid_loop_example_g00550_impl_firstState), ("loop.example/g00550/impl.roundNumbers", laid_loop_example_g00550_impl_roundNumbers), ("loop.example/g00550/impl.errNoBlock", laid_loop_example_g00550_impl_errNoBlock)], narrowed := true }
def FnListUptoSaid : Prop := fnListUptoRow.holds Tryz.pinned (OpenSpec.upto fnListSpec)

/-- 'laws.FnWay', WHERE WHAT IT READS IS OF BULK AT MOST 1048576: true; the input reads as it did. -/
def fnWayUptoRow : OpenClaim := { program := "ytjdlgpnhkfdehaagreatdoor", sum := "cae349ae163d07d72a1af9cc86ae5e0579537d75d323d01ab92120561ed12fa9", func := "loop.example/g00550/laws.FnWay", spec := "fnWay", inPlace := ["internal/abi.NoEscape"], unfollowed := true, recurses := true, named := ["loop.example/g00550/impl.firstState", "loop.example/g00550/impl.roundNumbers"], apart := false, laid := [("loop.example/g00550/impl.firstState", laid_loop_example_g00550_impl_firstState), ("loop.example/g00550/impl.roundNumbers", laid_loop_example_g00550_impl_roundNumbers)], narrowed := true }
def FnWayUptoSaid : Prop := fnWayUptoRow.holds Tryz.pinned (OpenSpec.upto fnWaySpec)

/-- 'laws.FnExactBlockUnpack', WHERE WHAT IT READS IS OF BULK AT MOST 1048576: true; the input reads as it did. -/
def fnExactBlockUnpackUptoRow : OpenClaim := { program := "ytjdlgpnhkfdehaagreatdoor", sum := "cae349ae163d07d72a1af9cc86ae5e0579537d75d323d01ab92120561ed12fa9", func := "loop.example/g00550/laws.FnExactBlockUnpack", spec := "fnExactBlockUnpack", inPlace := ["internal/reflectlite.TypeOf", "internal/abi.NoEscape"], unfollowed := true, recurses := true, named := ["loop.example/g00550/impl.errNoBlock"], ifaces := true, apart := false, laid := [("loop.example/g00550/impl.errNoBlock", laid_loop_example_g00550_impl_errNoBlock)], narrowed := true }
def FnExactBlockUnpackUptoSaid : Prop := fnExactBlockUnpackUptoRow.holds Tryz.pinned (OpenSpec.upto fnExactBlockUnpackSpec)

/-- 'laws.FnExactListOf', WHERE WHAT IT READS IS OF BULK AT MOST 1048576: true; the input reads as it did. -/
def fnExactListOfUptoRow : OpenClaim := { program := "ytjdlgpnhkfdehaagreatdoor", sum := "cae349ae163d07d72a1af9cc86ae5e0579537d75d323d01ab92120561ed12fa9", func := "loop.example/g00550/laws.FnExactListOf", spec := "fnExactListOf", inPlace := ["internal/abi.NoEscape"], unfollowed := true, recurses := true, named := ["loop.example/g00550/impl.firstState", "loop.example/g00550/impl.roundNumbers"], apart := false, laid := [("loop.example/g00550/impl.firstState", laid_loop_example_g00550_impl_firstState), ("loop.example/g00550/impl.roundNumbers", laid_loop_example_g00550_impl_roundNumbers)], narrowed := true }
def FnExactListOfUptoSaid : Prop := fnExactListOfUptoRow.holds Tryz.pinned (OpenSpec.upto fnExactListOfSpec)

/-- 'laws.FnExactFileOf', WHERE WHAT IT READS IS OF BULK AT MOST 1048576: true; the input reads as it did. -/
def fnExactFileOfUptoRow : OpenClaim := { program := "ytjdlgpnhkfdehaagreatdoor", sum := "cae349ae163d07d72a1af9cc86ae5e0579537d75d323d01ab92120561ed12fa9", func := "loop.example/g00550/laws.FnExactFileOf", spec := "fnExactFileOf", inPlace := ["internal/reflectlite.TypeOf", "internal/abi.NoEscape"], unfollowed := true, recurses := true, named := ["loop.example/g00550/impl.errNoBlock"], ifaces := true, apart := false, laid := [("loop.example/g00550/impl.errNoBlock", laid_loop_example_g00550_impl_errNoBlock)], narrowed := true }
def FnExactFileOfUptoSaid : Prop := fnExactFileOfUptoRow.holds Tryz.pinned (OpenSpec.upto fnExactFileOfSpec)

end Rows
end Go.Proofs.YtjdlgpnhkfdehaaGreatDoor
