/-
  No cell of these rows narrows 'for every input' (looked for: loops, veiled, ifaces, maps, wideKeys, modest, calm, conditions, laid).
  DERIVED. THE GIVEN ROWS OF THIS SEAT. 8 by the template 'for every input the law returns true; each argument reads behind the call as it read before'; 0 by the template 'total and deterministic' (their statements: YtkhhkgfaakgdfaaTotals.lean).
  GIVEN WITH THE SEED: the statements are not yours to turn. If you find one false, say at which input.
  Laid BY PROGRAM, IN A SANDBOX (cutbox-rows.mjs): the forced cells as the released guide's own fill.sh prints them over the translation 1ecb32250d69e952… (all of the seat's roots in one cut). By AI agents, Wed Nov 11 2026. No macro, syntax, notation, axiom, sorry.
-/
import Derived.Test.YtkhhkgfaakgdfaaChecked
import GoSem.Claim
import GoSem.ClaimJoined
import GoSem.ClaimMapViews
import Derived.JoinedTies
import Derived.KernelRfl
namespace Go.Proofs.Ytkhhkgfaakgdfaa
/- THE CELL 'sum', in the pinned program and in every row, IS THE sha256 OF THE DUMP (.gsa) THAT YtkhhkgfaakgdfaaProg.lean LOADS. Nothing in Lean hashes anything: it is a label: what it is worth is what the hold of that sum in a sandbox is worth. -/
noncomputable def Try.pinned : Pinned := { name := "ytkhhkgfaakgdfaa", sum := "1ecb32250d69e952edfe2f2d0bc6c4a64c42894da9019f8d8badc1240a128d99", checked := Try.checked }
namespace Rows
def none {H : Type} : Left H := { results := [], args := [] }

/-- 'scarablaw12.OrderClocks': WHATEVER THE INPUT: true; the input reads as it did. -/
def orderClocksSpec : ChangeSpec := { name := "orderClocks", fn := fun _ => fun
  | [d] => { results := [.lit (.bool true)], args := [d] }
  | _ => none }
def orderClocksRow : OpenClaim := { program := "ytkhhkgfaakgdfaa", sum := "1ecb32250d69e952edfe2f2d0bc6c4a64c42894da9019f8d8badc1240a128d99", func := "scarab/scarablaw12.OrderClocks", spec := "orderClocks", unfollowed := true, recurses := true, plainKeys := false, apart := false }
def OrderClocksSaid : Prop := orderClocksRow.holds Try.pinned (OpenSpec.ofChange orderClocksSpec)

/-- ITS FALSE NEIGHBOUR: 'it returns false'. Refute it at one input. -/
def orderClocksWrong : ChangeSpec := { name := "orderClocks", fn := fun _ => fun
  | [d] => { results := [.lit (.bool false)], args := [d] }
  | _ => none }
def OrderClocksWrongFalsely : Prop := orderClocksRow.holds Try.pinned (OpenSpec.ofChange orderClocksWrong)

/-- 'scarablaw12.OrderAsks': WHATEVER THE INPUT: true; the input reads as it did. -/
def orderAsksSpec : ChangeSpec := { name := "orderAsks", fn := fun _ => fun
  | [d1, d2, d3] => { results := [.lit (.bool true)], args := [d1, d2, d3] }
  | _ => none }
def orderAsksRow : OpenClaim := { program := "ytkhhkgfaakgdfaa", sum := "1ecb32250d69e952edfe2f2d0bc6c4a64c42894da9019f8d8badc1240a128d99", func := "scarab/scarablaw12.OrderAsks", spec := "orderAsks", unfollowed := true, recurses := true, plainKeys := false, apart := false }
def OrderAsksSaid : Prop := orderAsksRow.holds Try.pinned (OpenSpec.ofChange orderAsksSpec)

/-- ITS FALSE NEIGHBOUR: 'it returns false'. Refute it at one input. -/
def orderAsksWrong : ChangeSpec := { name := "orderAsks", fn := fun _ => fun
  | [d1, d2, d3] => { results := [.lit (.bool false)], args := [d1, d2, d3] }
  | _ => none }
def OrderAsksWrongFalsely : Prop := orderAsksRow.holds Try.pinned (OpenSpec.ofChange orderAsksWrong)

/-- 'scarablaw12.OrderLists': WHATEVER THE INPUT: true; the input reads as it did. -/
def orderListsSpec : ChangeSpec := { name := "orderLists", fn := fun _ => fun
  | [d1, d2] => { results := [.lit (.bool true)], args := [d1, d2] }
  | _ => none }
def orderListsRow : OpenClaim := { program := "ytkhhkgfaakgdfaa", sum := "1ecb32250d69e952edfe2f2d0bc6c4a64c42894da9019f8d8badc1240a128d99", func := "scarab/scarablaw12.OrderLists", spec := "orderLists", unfollowed := true, recurses := true, plainKeys := false, apart := false }
def OrderListsSaid : Prop := orderListsRow.holds Try.pinned (OpenSpec.ofChange orderListsSpec)

/-- ITS FALSE NEIGHBOUR: 'it returns false'. Refute it at one input. -/
def orderListsWrong : ChangeSpec := { name := "orderLists", fn := fun _ => fun
  | [d1, d2] => { results := [.lit (.bool false)], args := [d1, d2] }
  | _ => none }
def OrderListsWrongFalsely : Prop := orderListsRow.holds Try.pinned (OpenSpec.ofChange orderListsWrong)

/-- 'scarablaw12.OrderFollows': WHATEVER THE INPUT: true; the input reads as it did. -/
def orderFollowsSpec : ChangeSpec := { name := "orderFollows", fn := fun _ => fun
  | [d] => { results := [.lit (.bool true)], args := [d] }
  | _ => none }
def orderFollowsRow : OpenClaim := { program := "ytkhhkgfaakgdfaa", sum := "1ecb32250d69e952edfe2f2d0bc6c4a64c42894da9019f8d8badc1240a128d99", func := "scarab/scarablaw12.OrderFollows", spec := "orderFollows", unfollowed := true, recurses := true, plainKeys := false, apart := false }
def OrderFollowsSaid : Prop := orderFollowsRow.holds Try.pinned (OpenSpec.ofChange orderFollowsSpec)

/-- ITS FALSE NEIGHBOUR: 'it returns false'. Refute it at one input. -/
def orderFollowsWrong : ChangeSpec := { name := "orderFollows", fn := fun _ => fun
  | [d] => { results := [.lit (.bool false)], args := [d] }
  | _ => none }
def OrderFollowsWrongFalsely : Prop := orderFollowsRow.holds Try.pinned (OpenSpec.ofChange orderFollowsWrong)

/-- 'scarablaw12.OrderCuts': WHATEVER THE INPUT: true; the input reads as it did. -/
def orderCutsSpec : ChangeSpec := { name := "orderCuts", fn := fun _ => fun
  | [d1, d2, d3] => { results := [.lit (.bool true)], args := [d1, d2, d3] }
  | _ => none }
def orderCutsRow : OpenClaim := { program := "ytkhhkgfaakgdfaa", sum := "1ecb32250d69e952edfe2f2d0bc6c4a64c42894da9019f8d8badc1240a128d99", func := "scarab/scarablaw12.OrderCuts", spec := "orderCuts", unfollowed := true, recurses := true, plainKeys := false, apart := false }
def OrderCutsSaid : Prop := orderCutsRow.holds Try.pinned (OpenSpec.ofChange orderCutsSpec)

/-- ITS FALSE NEIGHBOUR: 'it returns false'. Refute it at one input. -/
def orderCutsWrong : ChangeSpec := { name := "orderCuts", fn := fun _ => fun
  | [d1, d2, d3] => { results := [.lit (.bool false)], args := [d1, d2, d3] }
  | _ => none }
def OrderCutsWrongFalsely : Prop := orderCutsRow.holds Try.pinned (OpenSpec.ofChange orderCutsWrong)

/-- 'scarablaw12.OrderHigh': WHATEVER THE INPUT: true; the input reads as it did. -/
def orderHighSpec : ChangeSpec := { name := "orderHigh", fn := fun _ => fun
  | [d] => { results := [.lit (.bool true)], args := [d] }
  | _ => none }
def orderHighRow : OpenClaim := { program := "ytkhhkgfaakgdfaa", sum := "1ecb32250d69e952edfe2f2d0bc6c4a64c42894da9019f8d8badc1240a128d99", func := "scarab/scarablaw12.OrderHigh", spec := "orderHigh", unfollowed := true, recurses := true, plainKeys := false, apart := false }
def OrderHighSaid : Prop := orderHighRow.holds Try.pinned (OpenSpec.ofChange orderHighSpec)

/-- ITS FALSE NEIGHBOUR: 'it returns false'. Refute it at one input. -/
def orderHighWrong : ChangeSpec := { name := "orderHigh", fn := fun _ => fun
  | [d] => { results := [.lit (.bool false)], args := [d] }
  | _ => none }
def OrderHighWrongFalsely : Prop := orderHighRow.holds Try.pinned (OpenSpec.ofChange orderHighWrong)

/-- 'scarablaw12.OrderTurned': WHATEVER THE INPUT: true; the input reads as it did. -/
def orderTurnedSpec : ChangeSpec := { name := "orderTurned", fn := fun _ => fun
  | [d1, d2] => { results := [.lit (.bool true)], args := [d1, d2] }
  | _ => none }
def orderTurnedRow : OpenClaim := { program := "ytkhhkgfaakgdfaa", sum := "1ecb32250d69e952edfe2f2d0bc6c4a64c42894da9019f8d8badc1240a128d99", func := "scarab/scarablaw12.OrderTurned", spec := "orderTurned", unfollowed := true, recurses := true, plainKeys := false, apart := false }
def OrderTurnedSaid : Prop := orderTurnedRow.holds Try.pinned (OpenSpec.ofChange orderTurnedSpec)

/-- ITS FALSE NEIGHBOUR: 'it returns false'. Refute it at one input. -/
def orderTurnedWrong : ChangeSpec := { name := "orderTurned", fn := fun _ => fun
  | [d1, d2] => { results := [.lit (.bool false)], args := [d1, d2] }
  | _ => none }
def OrderTurnedWrongFalsely : Prop := orderTurnedRow.holds Try.pinned (OpenSpec.ofChange orderTurnedWrong)

/-- 'scarablaw10.DependTraces': WHATEVER THE INPUT: true; the input reads as it did. -/
def dependTracesSpec : ChangeSpec := { name := "dependTraces", fn := fun _ => fun
  | [d] => { results := [.lit (.bool true)], args := [d] }
  | _ => none }
def dependTracesRow : OpenClaim := { program := "ytkhhkgfaakgdfaa", sum := "1ecb32250d69e952edfe2f2d0bc6c4a64c42894da9019f8d8badc1240a128d99", func := "scarab/scarablaw10.DependTraces", spec := "dependTraces", unfollowed := true, recurses := true, plainKeys := false, apart := false }
def DependTracesSaid : Prop := dependTracesRow.holds Try.pinned (OpenSpec.ofChange dependTracesSpec)

/-- ITS FALSE NEIGHBOUR: 'it returns false'. Refute it at one input. -/
def dependTracesWrong : ChangeSpec := { name := "dependTraces", fn := fun _ => fun
  | [d] => { results := [.lit (.bool false)], args := [d] }
  | _ => none }
def DependTracesWrongFalsely : Prop := dependTracesRow.holds Try.pinned (OpenSpec.ofChange dependTracesWrong)

/- THE SECOND FORM. 'bulk': how many values and letters a reading holds, each counted each time it is reached (what is shared counts as often as it is met; a slice's spare places count too). A statement '..UptoSaid' is the law's where the arguments, and the package variables that the reading takes, are together of bulk at most 1048576: NARROWER than '..Said'. Prove '..Said' where nothing that the law and all that it calls make is longer than what came in: it says more and counts as full. Else prove '..UptoSaid'. A law counts once. -/
mutual
def uptoBulk {H : Type} : DataW H → Nat
  | .lit (.string bytes) => bytes.length + 1
  | .lit _ => 1
  | .nil => 1
  | .ptr d => uptoBulk d + 1
  | .slice elems spare => uptoBulkAll elems + uptoBulkAll spare + 1
  | .agg parts => uptoBulkAll parts + 1
  | .iface _ d => uptoBulk d + 1
  | .map entries => uptoBulkEntries entries + 1
  | .held _ => 1
def uptoBulkAll {H : Type} : List (DataW H) → Nat
  | [] => 0
  | d :: r => uptoBulk d + uptoBulkAll r
def uptoBulkEntries {H : Type} : List (Lit × DataW H) → Nat
  | [] => 0
  | x :: r => uptoBulkEntry x + uptoBulkEntries r
def uptoBulkEntry {H : Type} : Lit × DataW H → Nat
  | (.string bytes, d) => bytes.length + uptoBulk d + 1
  | (_, d) => uptoBulk d + 1
 end
def uptoSmall : (H : Type) → List (DataW H) → Bool := fun _ ds => decide (uptoBulkAll ds ≤ 1048576)
def OpenSpec.upto (s : _root_.Go.ChangeSpec) : _root_.Go.OpenSpec := { _root_.Go.OpenSpec.ofChange s with cond := some uptoSmall }

/-- 'scarablaw12.OrderClocks', WHERE WHAT IT READS IS OF BULK AT MOST 1048576: true; the input reads as it did. -/
def orderClocksUptoRow : OpenClaim := { program := "ytkhhkgfaakgdfaa", sum := "1ecb32250d69e952edfe2f2d0bc6c4a64c42894da9019f8d8badc1240a128d99", func := "scarab/scarablaw12.OrderClocks", spec := "orderClocks", unfollowed := true, recurses := true, plainKeys := false, apart := false, narrowed := true }
def OrderClocksUptoSaid : Prop := orderClocksUptoRow.holds Try.pinned (OpenSpec.upto orderClocksSpec)

/-- 'scarablaw12.OrderAsks', WHERE WHAT IT READS IS OF BULK AT MOST 1048576: true; the input reads as it did. -/
def orderAsksUptoRow : OpenClaim := { program := "ytkhhkgfaakgdfaa", sum := "1ecb32250d69e952edfe2f2d0bc6c4a64c42894da9019f8d8badc1240a128d99", func := "scarab/scarablaw12.OrderAsks", spec := "orderAsks", unfollowed := true, recurses := true, plainKeys := false, apart := false, narrowed := true }
def OrderAsksUptoSaid : Prop := orderAsksUptoRow.holds Try.pinned (OpenSpec.upto orderAsksSpec)

/-- 'scarablaw12.OrderLists', WHERE WHAT IT READS IS OF BULK AT MOST 1048576: true; the input reads as it did. -/
def orderListsUptoRow : OpenClaim := { program := "ytkhhkgfaakgdfaa", sum := "1ecb32250d69e952edfe2f2d0bc6c4a64c42894da9019f8d8badc1240a128d99", func := "scarab/scarablaw12.OrderLists", spec := "orderLists", unfollowed := true, recurses := true, plainKeys := false, apart := false, narrowed := true }
def OrderListsUptoSaid : Prop := orderListsUptoRow.holds Try.pinned (OpenSpec.upto orderListsSpec)

/-- 'scarablaw12.OrderFollows', WHERE WHAT IT READS IS OF BULK AT MOST 1048576: true; the input reads as it did. -/
def orderFollowsUptoRow : OpenClaim := { program := "ytkhhkgfaakgdfaa", sum := "1ecb32250d69e952edfe2f2d0bc6c4a64c42894da9019f8d8badc1240a128d99", func := "scarab/scarablaw12.OrderFollows", spec := "orderFollows", unfollowed := true, recurses := true, plainKeys := false, apart := false, narrowed := true }
def OrderFollowsUptoSaid : Prop := orderFollowsUptoRow.holds Try.pinned (OpenSpec.upto orderFollowsSpec)

/-- 'scarablaw12.OrderCuts', WHERE WHAT IT READS IS OF BULK AT MOST 1048576: true; the input reads as it did. -/
def orderCutsUptoRow : OpenClaim := { program := "ytkhhkgfaakgdfaa", sum := "1ecb32250d69e952edfe2f2d0bc6c4a64c42894da9019f8d8badc1240a128d99", func := "scarab/scarablaw12.OrderCuts", spec := "orderCuts", unfollowed := true, recurses := true, plainKeys := false, apart := false, narrowed := true }
def OrderCutsUptoSaid : Prop := orderCutsUptoRow.holds Try.pinned (OpenSpec.upto orderCutsSpec)

/-- 'scarablaw12.OrderHigh', WHERE WHAT IT READS IS OF BULK AT MOST 1048576: true; the input reads as it did. -/
def orderHighUptoRow : OpenClaim := { program := "ytkhhkgfaakgdfaa", sum := "1ecb32250d69e952edfe2f2d0bc6c4a64c42894da9019f8d8badc1240a128d99", func := "scarab/scarablaw12.OrderHigh", spec := "orderHigh", unfollowed := true, recurses := true, plainKeys := false, apart := false, narrowed := true }
def OrderHighUptoSaid : Prop := orderHighUptoRow.holds Try.pinned (OpenSpec.upto orderHighSpec)

/-- 'scarablaw12.OrderTurned', WHERE WHAT IT READS IS OF BULK AT MOST 1048576: true; the input reads as it did. -/
def orderTurnedUptoRow : OpenClaim := { program := "ytkhhkgfaakgdfaa", sum := "1ecb32250d69e952edfe2f2d0bc6c4a64c42894da9019f8d8badc1240a128d99", func := "scarab/scarablaw12.OrderTurned", spec := "orderTurned", unfollowed := true, recurses := true, plainKeys := false, apart := false, narrowed := true }
def OrderTurnedUptoSaid : Prop := orderTurnedUptoRow.holds Try.pinned (OpenSpec.upto orderTurnedSpec)

/-- 'scarablaw10.DependTraces', WHERE WHAT IT READS IS OF BULK AT MOST 1048576: true; the input reads as it did. -/
def dependTracesUptoRow : OpenClaim := { program := "ytkhhkgfaakgdfaa", sum := "1ecb32250d69e952edfe2f2d0bc6c4a64c42894da9019f8d8badc1240a128d99", func := "scarab/scarablaw10.DependTraces", spec := "dependTraces", unfollowed := true, recurses := true, plainKeys := false, apart := false, narrowed := true }
def DependTracesUptoSaid : Prop := dependTracesUptoRow.holds Try.pinned (OpenSpec.upto dependTracesSpec)

end Rows
end Go.Proofs.Ytkhhkgfaakgdfaa
