/-
  No cell of these rows narrows 'for every input' (looked for: loops, veiled, ifaces, maps, wideKeys, modest, calm, conditions, laid).
  DERIVED. THE GIVEN ROWS OF THIS SEAT. 7 by the template 'for every input the law returns true; each argument reads behind the call as it read before'; 0 by the template 'total and deterministic' (their statements: YtkadlopcomjonaaTotals.lean).
  GIVEN WITH THE SEED: the statements are not yours to turn. If you find one false, say at which input.
  Laid BY PROGRAM, IN A SANDBOX (cutbox-rows.mjs): the forced cells as the released guide's own fill.sh prints them over the translation 8632eba2646369d4… (all of the seat's roots in one cut). By AI agents, Wed Nov 11 2026. No macro, syntax, notation, axiom, sorry.
-/
import Derived.Test.YtkadlopcomjonaaChecked
import GoSem.Claim
import GoSem.ClaimJoined
import GoSem.ClaimMapViews
import Derived.JoinedTies
import Derived.KernelRfl
namespace Go.Proofs.Ytkadlopcomjonaa
/- THE CELL 'sum', in the pinned program and in every row, IS THE sha256 OF THE DUMP (.gsa) THAT YtkadlopcomjonaaProg.lean LOADS. Nothing in Lean hashes anything: it is a label: what it is worth is what the hold of that sum in a sandbox is worth. -/
noncomputable def Try.pinned : Pinned := { name := "ytkadlopcomjonaa", sum := "8632eba2646369d4ab97bb84cf0749b6996fff11f449ab1d51fa55b58bec6a5c", checked := Try.checked }
namespace Rows
def none {H : Type} : Left H := { results := [], args := [] }

/-- 'scarablaw10.DependTraces': WHATEVER THE INPUT: true; the input reads as it did. -/
def dependTracesSpec : ChangeSpec := { name := "dependTraces", fn := fun _ => fun
  | [d] => { results := [.lit (.bool true)], args := [d] }
  | _ => none }
def dependTracesRow : OpenClaim := { program := "ytkadlopcomjonaa", sum := "8632eba2646369d4ab97bb84cf0749b6996fff11f449ab1d51fa55b58bec6a5c", func := "scarab/scarablaw10.DependTraces", spec := "dependTraces", unfollowed := true, recurses := true, plainKeys := false, apart := false }
def DependTracesSaid : Prop := dependTracesRow.holds Try.pinned (OpenSpec.ofChange dependTracesSpec)

/-- ITS FALSE NEIGHBOUR: 'it returns false'. Refute it at one input. -/
def dependTracesWrong : ChangeSpec := { name := "dependTraces", fn := fun _ => fun
  | [d] => { results := [.lit (.bool false)], args := [d] }
  | _ => none }
def DependTracesWrongFalsely : Prop := dependTracesRow.holds Try.pinned (OpenSpec.ofChange dependTracesWrong)

/-- 'scarablaw13.CanonForms': WHATEVER THE INPUT: true; the input reads as it did. -/
def canonFormsSpec : ChangeSpec := { name := "canonForms", fn := fun _ => fun
  | [d] => { results := [.lit (.bool true)], args := [d] }
  | _ => none }
def canonFormsRow : OpenClaim := { program := "ytkadlopcomjonaa", sum := "8632eba2646369d4ab97bb84cf0749b6996fff11f449ab1d51fa55b58bec6a5c", func := "scarab/scarablaw13.CanonForms", spec := "canonForms", unfollowed := true, recurses := true, plainKeys := false, apart := false }
def CanonFormsSaid : Prop := canonFormsRow.holds Try.pinned (OpenSpec.ofChange canonFormsSpec)

/-- ITS FALSE NEIGHBOUR: 'it returns false'. Refute it at one input. -/
def canonFormsWrong : ChangeSpec := { name := "canonForms", fn := fun _ => fun
  | [d] => { results := [.lit (.bool false)], args := [d] }
  | _ => none }
def CanonFormsWrongFalsely : Prop := canonFormsRow.holds Try.pinned (OpenSpec.ofChange canonFormsWrong)

/-- 'scarablaw13.CanonApplies': WHATEVER THE INPUT: true; the input reads as it did. -/
def canonAppliesSpec : ChangeSpec := { name := "canonApplies", fn := fun _ => fun
  | [d1, d2] => { results := [.lit (.bool true)], args := [d1, d2] }
  | _ => none }
def canonAppliesRow : OpenClaim := { program := "ytkadlopcomjonaa", sum := "8632eba2646369d4ab97bb84cf0749b6996fff11f449ab1d51fa55b58bec6a5c", func := "scarab/scarablaw13.CanonApplies", spec := "canonApplies", unfollowed := true, recurses := true, plainKeys := false, apart := false }
def CanonAppliesSaid : Prop := canonAppliesRow.holds Try.pinned (OpenSpec.ofChange canonAppliesSpec)

/-- ITS FALSE NEIGHBOUR: 'it returns false'. Refute it at one input. -/
def canonAppliesWrong : ChangeSpec := { name := "canonApplies", fn := fun _ => fun
  | [d1, d2] => { results := [.lit (.bool false)], args := [d1, d2] }
  | _ => none }
def CanonAppliesWrongFalsely : Prop := canonAppliesRow.holds Try.pinned (OpenSpec.ofChange canonAppliesWrong)

/-- 'scarablaw13.CanonCounts': WHATEVER THE INPUT: true; the input reads as it did. -/
def canonCountsSpec : ChangeSpec := { name := "canonCounts", fn := fun _ => fun
  | [d1, d2] => { results := [.lit (.bool true)], args := [d1, d2] }
  | _ => none }
def canonCountsRow : OpenClaim := { program := "ytkadlopcomjonaa", sum := "8632eba2646369d4ab97bb84cf0749b6996fff11f449ab1d51fa55b58bec6a5c", func := "scarab/scarablaw13.CanonCounts", spec := "canonCounts", unfollowed := true, recurses := true, plainKeys := false, apart := false }
def CanonCountsSaid : Prop := canonCountsRow.holds Try.pinned (OpenSpec.ofChange canonCountsSpec)

/-- ITS FALSE NEIGHBOUR: 'it returns false'. Refute it at one input. -/
def canonCountsWrong : ChangeSpec := { name := "canonCounts", fn := fun _ => fun
  | [d1, d2] => { results := [.lit (.bool false)], args := [d1, d2] }
  | _ => none }
def CanonCountsWrongFalsely : Prop := canonCountsRow.holds Try.pinned (OpenSpec.ofChange canonCountsWrong)

/-- 'scarablaw13.CanonOnce': WHATEVER THE INPUT: true; the input reads as it did. -/
def canonOnceSpec : ChangeSpec := { name := "canonOnce", fn := fun _ => fun
  | [d] => { results := [.lit (.bool true)], args := [d] }
  | _ => none }
def canonOnceRow : OpenClaim := { program := "ytkadlopcomjonaa", sum := "8632eba2646369d4ab97bb84cf0749b6996fff11f449ab1d51fa55b58bec6a5c", func := "scarab/scarablaw13.CanonOnce", spec := "canonOnce", unfollowed := true, recurses := true, plainKeys := false, apart := false }
def CanonOnceSaid : Prop := canonOnceRow.holds Try.pinned (OpenSpec.ofChange canonOnceSpec)

/-- ITS FALSE NEIGHBOUR: 'it returns false'. Refute it at one input. -/
def canonOnceWrong : ChangeSpec := { name := "canonOnce", fn := fun _ => fun
  | [d] => { results := [.lit (.bool false)], args := [d] }
  | _ => none }
def CanonOnceWrongFalsely : Prop := canonOnceRow.holds Try.pinned (OpenSpec.ofChange canonOnceWrong)

/-- 'scarablaw13.CanonFoata': WHATEVER THE INPUT: true; the input reads as it did. -/
def canonFoataSpec : ChangeSpec := { name := "canonFoata", fn := fun _ => fun
  | [d] => { results := [.lit (.bool true)], args := [d] }
  | _ => none }
def canonFoataRow : OpenClaim := { program := "ytkadlopcomjonaa", sum := "8632eba2646369d4ab97bb84cf0749b6996fff11f449ab1d51fa55b58bec6a5c", func := "scarab/scarablaw13.CanonFoata", spec := "canonFoata", unfollowed := true, recurses := true, plainKeys := false, apart := false }
def CanonFoataSaid : Prop := canonFoataRow.holds Try.pinned (OpenSpec.ofChange canonFoataSpec)

/-- ITS FALSE NEIGHBOUR: 'it returns false'. Refute it at one input. -/
def canonFoataWrong : ChangeSpec := { name := "canonFoata", fn := fun _ => fun
  | [d] => { results := [.lit (.bool false)], args := [d] }
  | _ => none }
def CanonFoataWrongFalsely : Prop := canonFoataRow.holds Try.pinned (OpenSpec.ofChange canonFoataWrong)

/-- 'scarablaw13.CanonWays': WHATEVER THE INPUT: true; the input reads as it did. -/
def canonWaysSpec : ChangeSpec := { name := "canonWays", fn := fun _ => fun
  | [d] => { results := [.lit (.bool true)], args := [d] }
  | _ => none }
def canonWaysRow : OpenClaim := { program := "ytkadlopcomjonaa", sum := "8632eba2646369d4ab97bb84cf0749b6996fff11f449ab1d51fa55b58bec6a5c", func := "scarab/scarablaw13.CanonWays", spec := "canonWays", unfollowed := true, recurses := true, plainKeys := false, apart := false }
def CanonWaysSaid : Prop := canonWaysRow.holds Try.pinned (OpenSpec.ofChange canonWaysSpec)

/-- ITS FALSE NEIGHBOUR: 'it returns false'. Refute it at one input. -/
def canonWaysWrong : ChangeSpec := { name := "canonWays", fn := fun _ => fun
  | [d] => { results := [.lit (.bool false)], args := [d] }
  | _ => none }
def CanonWaysWrongFalsely : Prop := canonWaysRow.holds Try.pinned (OpenSpec.ofChange canonWaysWrong)

/- THE SECOND FORM. 'bulk': how many values and letters a reading holds, each counted each time it is reached (what is shared counts as often as it is met; a slice's spare places count too). A statement '..UptoSaid' is the law's where the arguments, and the package variables that the reading takes, are together of bulk at most 1048576: NARROWER than '..Said'. Prove '..Said' where nothing that the law and all that it calls make is longer than what came in: it says more and counts as full. Else prove '..UptoSaid'. A law counts once. -/
mutual
def uptoBulk {H : Type} : DataW H → Nat
  | .lit (.string bytes) => bytes.length + 1
  | .lit _ => 1
  | .nil => 1
  | .ptr d => uptoBulk d + 1
  | .slice elems spare => uptoBulkAll elems + uptoBulkAll spare + 1
  | .agg parts => uptoBulkAll parts + 1
  | .iface _ d => uptoBulk d + 1
  | .map entries => uptoBulkEntries entries + 1
  | .held _ => 1
def uptoBulkAll {H : Type} : List (DataW H) → Nat
  | [] => 0
  | d :: r => uptoBulk d + uptoBulkAll r
def uptoBulkEntries {H : Type} : List (Lit × DataW H) → Nat
  | [] => 0
  | x :: r => uptoBulkEntry x + uptoBulkEntries r
def uptoBulkEntry {H : Type} : Lit × DataW H → Nat
  | (.string bytes, d) => bytes.length + uptoBulk d + 1
  | (_, d) => uptoBulk d + 1
 end
def uptoSmall : (H : Type) → List (DataW H) → Bool := fun _ ds => decide (uptoBulkAll ds ≤ 1048576)
def OpenSpec.upto (s : _root_.Go.ChangeSpec) : _root_.Go.OpenSpec := { _root_.Go.OpenSpec.ofChange s with cond := some uptoSmall }

/-- 'scarablaw10.DependTraces', WHERE WHAT IT READS IS OF BULK AT MOST 1048576: true; the input reads as it did. -/
def dependTracesUptoRow : OpenClaim := { program := "ytkadlopcomjonaa", sum := "8632eba2646369d4ab97bb84cf0749b6996fff11f449ab1d51fa55b58bec6a5c", func := "scarab/scarablaw10.DependTraces", spec := "dependTraces", unfollowed := true, recurses := true, plainKeys := false, apart := false, narrowed := true }
def DependTracesUptoSaid : Prop := dependTracesUptoRow.holds Try.pinned (OpenSpec.upto dependTracesSpec)

/-- 'scarablaw13.CanonForms', WHERE WHAT IT READS IS OF BULK AT MOST 1048576: true; the input reads as it did. -/
def canonFormsUptoRow : OpenClaim := { program := "ytkadlopcomjonaa", sum := "8632eba2646369d4ab97bb84cf0749b6996fff11f449ab1d51fa55b58bec6a5c", func := "scarab/scarablaw13.CanonForms", spec := "canonForms", unfollowed := true, recurses := true, plainKeys := false, apart := false, narrowed := true }
def CanonFormsUptoSaid : Prop := canonFormsUptoRow.holds Try.pinned (OpenSpec.upto canonFormsSpec)

/-- 'scarablaw13.CanonApplies', WHERE WHAT IT READS IS OF BULK AT MOST 1048576: true; the input reads as it did. -/
def canonAppliesUptoRow : OpenClaim := { program := "ytkadlopcomjonaa", sum := "8632eba2646369d4ab97bb84cf0749b6996fff11f449ab1d51fa55b58bec6a5c", func := "scarab/scarablaw13.CanonApplies", spec := "canonApplies", unfollowed := true, recurses := true, plainKeys := false, apart := false, narrowed := true }
def CanonAppliesUptoSaid : Prop := canonAppliesUptoRow.holds Try.pinned (OpenSpec.upto canonAppliesSpec)

/-- 'scarablaw13.CanonCounts', WHERE WHAT IT READS IS OF BULK AT MOST 1048576: true; the input reads as it did. -/
def canonCountsUptoRow : OpenClaim := { program := "ytkadlopcomjonaa", sum := "8632eba2646369d4ab97bb84cf0749b6996fff11f449ab1d51fa55b58bec6a5c", func := "scarab/scarablaw13.CanonCounts", spec := "canonCounts", unfollowed := true, recurses := true, plainKeys := false, apart := false, narrowed := true }
def CanonCountsUptoSaid : Prop := canonCountsUptoRow.holds Try.pinned (OpenSpec.upto canonCountsSpec)

/-- 'scarablaw13.CanonOnce', WHERE WHAT IT READS IS OF BULK AT MOST 1048576: true; the input reads as it did. -/
def canonOnceUptoRow : OpenClaim := { program := "ytkadlopcomjonaa", sum := "8632eba2646369d4ab97bb84cf0749b6996fff11f449ab1d51fa55b58bec6a5c", func := "scarab/scarablaw13.CanonOnce", spec := "canonOnce", unfollowed := true, recurses := true, plainKeys := false, apart := false, narrowed := true }
def CanonOnceUptoSaid : Prop := canonOnceUptoRow.holds Try.pinned (OpenSpec.upto canonOnceSpec)

/-- 'scarablaw13.CanonFoata', WHERE WHAT IT READS IS OF BULK AT MOST 1048576: true; the input reads as it did. -/
def canonFoataUptoRow : OpenClaim := { program := "ytkadlopcomjonaa", sum := "8632eba2646369d4ab97bb84cf0749b6996fff11f449ab1d51fa55b58bec6a5c", func := "scarab/scarablaw13.CanonFoata", spec := "canonFoata", unfollowed := true, recurses := true, plainKeys := false, apart := false, narrowed := true }
def CanonFoataUptoSaid : Prop := canonFoataUptoRow.holds Try.pinned (OpenSpec.upto canonFoataSpec)

/-- 'scarablaw13.CanonWays', WHERE WHAT IT READS IS OF BULK AT MOST 1048576: true; the input reads as it did. -/
def canonWaysUptoRow : OpenClaim := { program := "ytkadlopcomjonaa", sum := "8632eba2646369d4ab97bb84cf0749b6996fff11f449ab1d51fa55b58bec6a5c", func := "scarab/scarablaw13.CanonWays", spec := "canonWays", unfollowed := true, recurses := true, plainKeys := false, apart := false, narrowed := true }
def CanonWaysUptoSaid : Prop := canonWaysUptoRow.holds Try.pinned (OpenSpec.upto canonWaysSpec)

end Rows
end Go.Proofs.Ytkadlopcomjonaa
