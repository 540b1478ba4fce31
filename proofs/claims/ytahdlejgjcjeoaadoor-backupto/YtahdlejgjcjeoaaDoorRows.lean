/-
  NARROWER THAN 'FOR EVERY INPUT', by the rows' own cells (each row's printed sentence says how): Joins: laid · Deltas: laid · Alls: calm, laid · Reads: laid · Joined: calm, laid · Least: laid · Codes: laid · Back: laid.
  DERIVED. THE GIVEN ROWS OF THIS SEAT. 8 by the template 'for every input the law returns true; each argument reads behind the call as it read before'; 0 by the template 'total and deterministic' (their statements: YtahdlejgjcjeoaaDoorTotals.lean).
  GIVEN WITH THE SEED: the statements are not yours to turn. If you find one false, say at which input.
  Laid BY PROGRAM, IN A SANDBOX (cutbox-rows.mjs): the forced cells as the released guide's own fill.sh prints them over the translation fac3234dd07cc2f4… (all of the seat's roots in one cut). By AI agents, Wed Nov 11 2026. No macro, syntax, notation, axiom, sorry.
-/
import Derived.Test.YtahdlejgjcjeoaaDoorChecked
import GoSem.Claim
import GoSem.ClaimJoined
import GoSem.ClaimMapViews
import Derived.JoinedTies
import Derived.KernelRfl
namespace Go.Proofs.YtahdlejgjcjeoaaDoor
/- THE CELL 'sum', in the pinned program and in every row, IS THE sha256 OF THE DUMP (.gsa) THAT YtahdlejgjcjeoaaDoorProg.lean LOADS. Nothing in Lean hashes anything: it is a label: what it is worth is what the hold of that sum in a sandbox is worth. -/
noncomputable def Tryd.pinned : Pinned := { name := "ytahdlejgjcjeoaadoor", sum := "fac3234dd07cc2f438143618e430f95ca2a68fb6b81b3b1c7f9c5ea388e847f8", checked := Tryd.checked }
namespace Rows
def none {H : Type} : Left H := { results := [], args := [] }

/- WHAT THE LISTED PACKAGE-LEVEL VARIABLES READ AS WHEN THE CALL BEGINS. Each datum BY PROGRAM (the guide's laid-datum.mjs) off the statement by which the dump's own 'gosem.cut.vars' lays the variable. In a bare row this is a premise. The card (YtahdlejgjcjeoaaDoorCards.lean) ties it to the program's text. -/
def laid_ripple_state_rules {H : Type} : DataW H := .agg [.agg [.lit (.int .i64 0), .lit (.int .i64 5), .lit (.int .i64 1), .lit (.int .i64 2147483647), .lit (.int .i64 0), .lit (.bool false)], .agg [.lit (.int .i64 1), .lit (.int .i64 5), .lit (.int .i64 1), .lit (.int .i64 2147483647), .lit (.int .i64 0), .lit (.bool false)], .agg [.lit (.int .i64 0), .lit (.int .i64 0), .lit (.int .i64 0), .lit (.int .i64 0), .lit (.int .i64 8), .lit (.bool false)], .agg [.lit (.int .i64 1), .lit (.int .i64 0), .lit (.int .i64 0), .lit (.int .i64 0), .lit (.int .i64 8), .lit (.bool false)], .agg [.lit (.int .i64 0), .lit (.int .i64 5), .lit (.int .i64 1), .lit (.int .i64 2147483647), .lit (.int .i64 8), .lit (.bool true)]]

/-- 'ripplelaw.Joins': WHATEVER THE INPUT: true; the input reads as it did. -/
def joinsSpec : ChangeSpec := { name := "joins", fn := fun _ => fun
  | [d1, d2] => { results := [.lit (.bool true)], args := [d1, d2] }
  | _ => none }
def joinsRow : OpenClaim := { program := "ytahdlejgjcjeoaadoor", sum := "fac3234dd07cc2f438143618e430f95ca2a68fb6b81b3b1c7f9c5ea388e847f8", func := "ripple/ripplelaw.Joins", spec := "joins", unfollowed := true, recurses := true, named := ["ripple/state.rules"], plainKeys := false, leaving := true, apart := false, laid := [("ripple/state.rules", laid_ripple_state_rules)] }
def JoinsSaid : Prop := joinsRow.holds Tryd.pinned (OpenSpec.ofChange joinsSpec)

/-- ITS FALSE NEIGHBOUR: 'it returns false'. Refute it at one input. -/
def joinsWrong : ChangeSpec := { name := "joins", fn := fun _ => fun
  | [d1, d2] => { results := [.lit (.bool false)], args := [d1, d2] }
  | _ => none }
def JoinsWrongFalsely : Prop := joinsRow.holds Tryd.pinned (OpenSpec.ofChange joinsWrong)

/-- 'ripplelaw.Deltas': WHATEVER THE INPUT: true; the input reads as it did. -/
def deltasSpec : ChangeSpec := { name := "deltas", fn := fun _ => fun
  | [d1, d2] => { results := [.lit (.bool true)], args := [d1, d2] }
  | _ => none }
def deltasRow : OpenClaim := { program := "ytahdlejgjcjeoaadoor", sum := "fac3234dd07cc2f438143618e430f95ca2a68fb6b81b3b1c7f9c5ea388e847f8", func := "ripple/ripplelaw.Deltas", spec := "deltas", unfollowed := true, recurses := true, named := ["ripple/state.rules"], plainKeys := false, leaving := true, apart := false, laid := [("ripple/state.rules", laid_ripple_state_rules)] }
def DeltasSaid : Prop := deltasRow.holds Tryd.pinned (OpenSpec.ofChange deltasSpec)

/-- ITS FALSE NEIGHBOUR: 'it returns false'. Refute it at one input. -/
def deltasWrong : ChangeSpec := { name := "deltas", fn := fun _ => fun
  | [d1, d2] => { results := [.lit (.bool false)], args := [d1, d2] }
  | _ => none }
def DeltasWrongFalsely : Prop := deltasRow.holds Tryd.pinned (OpenSpec.ofChange deltasWrong)

/-- 'ripplelaw.Alls': WHATEVER THE INPUT: true; the input reads as it did. -/
def allsSpec : ChangeSpec := { name := "alls", fn := fun _ => fun
  | [d] => { results := [.lit (.bool true)], args := [d] }
  | _ => none }
def allsRow : OpenClaim := { program := "ytahdlejgjcjeoaadoor", sum := "fac3234dd07cc2f438143618e430f95ca2a68fb6b81b3b1c7f9c5ea388e847f8", func := "ripple/ripplelaw.Alls", spec := "alls", inPlace := ["(*sync.WaitGroup).Add", "internal/race.ReleaseMerge", "internal/race.Disable", "internal/race.Enable", "internal/synctest.IsInBubble", "internal/synctest.Associate[sync.WaitGroup]", "sync.fatal", "sync/atomic.OrUint64", "sync/atomic.AddUint64", "internal/race.Read", "sync/atomic.LoadUint64", "sync/atomic.StoreUint64", "internal/synctest.Disassociate[sync.WaitGroup]", "sync.runtime_Semrelease", "(*sync.WaitGroup).Done", "(*internal/sync.Mutex).Lock", "sync/atomic.CompareAndSwapInt32", "internal/race.Acquire", "(*internal/sync.Mutex).lockSlow", "internal/sync.runtime_canSpin", "internal/sync.runtime_doSpin", "internal/sync.throw", "internal/sync.runtime_nanotime", "internal/sync.runtime_SemacquireMutex", "sync/atomic.AddInt32", "(*internal/sync.Mutex).Unlock", "(*internal/sync.Mutex).unlockSlow", "internal/sync.fatal", "internal/sync.runtime_Semrelease", "(*sync.WaitGroup).Wait", "internal/synctest.IsAssociated[sync.WaitGroup]", "sync/atomic.CompareAndSwapUint64", "internal/race.Write", "sync.runtime_SemacquireWaitGroup"], unfollowed := true, recurses := true, named := ["ripple/state.rules"], plainKeys := false, leaving := true, apart := false, calm := true, outside := [.timePasses], laid := [("ripple/state.rules", laid_ripple_state_rules)] }
def AllsSaid : Prop := allsRow.holds Tryd.pinned (OpenSpec.ofChange allsSpec)

/-- ITS FALSE NEIGHBOUR: 'it returns false'. Refute it at one input. -/
def allsWrong : ChangeSpec := { name := "alls", fn := fun _ => fun
  | [d] => { results := [.lit (.bool false)], args := [d] }
  | _ => none }
def AllsWrongFalsely : Prop := allsRow.holds Tryd.pinned (OpenSpec.ofChange allsWrong)

/-- 'ripplelaw.Reads': WHATEVER THE INPUT: true; the input reads as it did. -/
def readsSpec : ChangeSpec := { name := "reads", fn := fun _ => fun
  | [d1, d2, d3] => { results := [.lit (.bool true)], args := [d1, d2, d3] }
  | _ => none }
def readsRow : OpenClaim := { program := "ytahdlejgjcjeoaadoor", sum := "fac3234dd07cc2f438143618e430f95ca2a68fb6b81b3b1c7f9c5ea388e847f8", func := "ripple/ripplelaw.Reads", spec := "reads", recurses := true, named := ["ripple/state.rules"], plainKeys := false, apart := false, laid := [("ripple/state.rules", laid_ripple_state_rules)] }
def ReadsSaid : Prop := readsRow.holds Tryd.pinned (OpenSpec.ofChange readsSpec)

/-- ITS FALSE NEIGHBOUR: 'it returns false'. Refute it at one input. -/
def readsWrong : ChangeSpec := { name := "reads", fn := fun _ => fun
  | [d1, d2, d3] => { results := [.lit (.bool false)], args := [d1, d2, d3] }
  | _ => none }
def ReadsWrongFalsely : Prop := readsRow.holds Tryd.pinned (OpenSpec.ofChange readsWrong)

/-- 'ripplelaw.Joined': WHATEVER THE INPUT: true; the input reads as it did. -/
def joinedSpec : ChangeSpec := { name := "joined", fn := fun _ => fun
  | [d1, d2, d3] => { results := [.lit (.bool true)], args := [d1, d2, d3] }
  | _ => none }
def joinedRow : OpenClaim := { program := "ytahdlejgjcjeoaadoor", sum := "fac3234dd07cc2f438143618e430f95ca2a68fb6b81b3b1c7f9c5ea388e847f8", func := "ripple/ripplelaw.Joined", spec := "joined", inPlace := ["(*sync.WaitGroup).Add", "internal/race.ReleaseMerge", "internal/race.Disable", "internal/race.Enable", "internal/synctest.IsInBubble", "internal/synctest.Associate[sync.WaitGroup]", "sync.fatal", "sync/atomic.OrUint64", "sync/atomic.AddUint64", "internal/race.Read", "sync/atomic.LoadUint64", "sync/atomic.StoreUint64", "internal/synctest.Disassociate[sync.WaitGroup]", "sync.runtime_Semrelease", "(*sync.WaitGroup).Done", "(*internal/sync.Mutex).Lock", "sync/atomic.CompareAndSwapInt32", "internal/race.Acquire", "(*internal/sync.Mutex).lockSlow", "internal/sync.runtime_canSpin", "internal/sync.runtime_doSpin", "internal/sync.throw", "internal/sync.runtime_nanotime", "internal/sync.runtime_SemacquireMutex", "sync/atomic.AddInt32", "(*internal/sync.Mutex).Unlock", "(*internal/sync.Mutex).unlockSlow", "internal/sync.fatal", "internal/sync.runtime_Semrelease", "(*sync.WaitGroup).Wait", "internal/synctest.IsAssociated[sync.WaitGroup]", "sync/atomic.CompareAndSwapUint64", "internal/race.Write", "sync.runtime_SemacquireWaitGroup"], unfollowed := true, recurses := true, named := ["ripple/state.rules"], plainKeys := false, leaving := true, apart := false, calm := true, outside := [.timePasses], laid := [("ripple/state.rules", laid_ripple_state_rules)] }
def JoinedSaid : Prop := joinedRow.holds Tryd.pinned (OpenSpec.ofChange joinedSpec)

/-- ITS FALSE NEIGHBOUR: 'it returns false'. Refute it at one input. -/
def joinedWrong : ChangeSpec := { name := "joined", fn := fun _ => fun
  | [d1, d2, d3] => { results := [.lit (.bool false)], args := [d1, d2, d3] }
  | _ => none }
def JoinedWrongFalsely : Prop := joinedRow.holds Tryd.pinned (OpenSpec.ofChange joinedWrong)

/-- 'ripplelaw.Least': WHATEVER THE INPUT: true; the input reads as it did. -/
def leastSpec : ChangeSpec := { name := "least", fn := fun _ => fun
  | [d1, d2, d3] => { results := [.lit (.bool true)], args := [d1, d2, d3] }
  | _ => none }
def leastRow : OpenClaim := { program := "ytahdlejgjcjeoaadoor", sum := "fac3234dd07cc2f438143618e430f95ca2a68fb6b81b3b1c7f9c5ea388e847f8", func := "ripple/ripplelaw.Least", spec := "least", unfollowed := true, recurses := true, named := ["ripple/state.rules"], plainKeys := false, leaving := true, apart := false, laid := [("ripple/state.rules", laid_ripple_state_rules)] }
def LeastSaid : Prop := leastRow.holds Tryd.pinned (OpenSpec.ofChange leastSpec)

/-- ITS FALSE NEIGHBOUR: 'it returns false'. Refute it at one input. -/
def leastWrong : ChangeSpec := { name := "least", fn := fun _ => fun
  | [d1, d2, d3] => { results := [.lit (.bool false)], args := [d1, d2, d3] }
  | _ => none }
def LeastWrongFalsely : Prop := leastRow.holds Tryd.pinned (OpenSpec.ofChange leastWrong)

/-- 'ripplelaw.Codes': WHATEVER THE INPUT: true; the input reads as it did. -/
def codesSpec : ChangeSpec := { name := "codes", fn := fun _ => fun
  | [d1, d2] => { results := [.lit (.bool true)], args := [d1, d2] }
  | _ => none }
def codesRow : OpenClaim := { program := "ytahdlejgjcjeoaadoor", sum := "fac3234dd07cc2f438143618e430f95ca2a68fb6b81b3b1c7f9c5ea388e847f8", func := "ripple/ripplelaw.Codes", spec := "codes", unfollowed := true, recurses := true, named := ["ripple/state.rules"], plainKeys := false, leaving := true, apart := false, laid := [("ripple/state.rules", laid_ripple_state_rules)] }
def CodesSaid : Prop := codesRow.holds Tryd.pinned (OpenSpec.ofChange codesSpec)

/-- ITS FALSE NEIGHBOUR: 'it returns false'. Refute it at one input. -/
def codesWrong : ChangeSpec := { name := "codes", fn := fun _ => fun
  | [d1, d2] => { results := [.lit (.bool false)], args := [d1, d2] }
  | _ => none }
def CodesWrongFalsely : Prop := codesRow.holds Tryd.pinned (OpenSpec.ofChange codesWrong)

/-- 'ripplelaw.Back': WHATEVER THE INPUT: true; the input reads as it did. -/
def backSpec : ChangeSpec := { name := "back", fn := fun _ => fun
  | [d] => { results := [.lit (.bool true)], args := [d] }
  | _ => none }
def backRow : OpenClaim := { program := "ytahdlejgjcjeoaadoor", sum := "fac3234dd07cc2f438143618e430f95ca2a68fb6b81b3b1c7f9c5ea388e847f8", func := "ripple/ripplelaw.Back", spec := "back", unfollowed := true, recurses := true, named := ["ripple/state.rules"], plainKeys := false, leaving := true, apart := false, laid := [("ripple/state.rules", laid_ripple_state_rules)] }
def BackSaid : Prop := backRow.holds Tryd.pinned (OpenSpec.ofChange backSpec)

/-- ITS FALSE NEIGHBOUR: 'it returns false'. Refute it at one input. -/
def backWrong : ChangeSpec := { name := "back", fn := fun _ => fun
  | [d] => { results := [.lit (.bool false)], args := [d] }
  | _ => none }
def BackWrongFalsely : Prop := backRow.holds Tryd.pinned (OpenSpec.ofChange backWrong)

/- THE SECOND FORM. 'bulk': how many values and letters a reading holds, each counted each time it is reached (what is shared counts as often as it is met; a slice's spare places count too). A statement '..UptoSaid' is the law's where the arguments, and the package variables that the reading takes, are together of bulk at most 1048576: NARROWER than '..Said'. Prove '..Said' where nothing that the law and all that it calls make is longer than what came in: it says more and counts as full. Else prove '..UptoSaid'. A law counts once. -/
mutual
def uptoBulk {H : Type} : DataW H → Nat
  | .lit (.string bytes) => bytes.length + 1
  | .lit _ => 1
  | .nil => 1
  | .ptr d => uptoBulk d + 1
  | .slice elems spare => uptoBulkAll elems + uptoBulkAll spare + 1
  | .agg parts => uptoBulkAll parts + 1
  | .iface _ d => uptoBulk d + 1
  | .map entries => uptoBulkEntries entries + 1
  | .held _ => 1
def uptoBulkAll {H : Type} : List (DataW H) → Nat
  | [] => 0
  | d :: r => uptoBulk d + uptoBulkAll r
def uptoBulkEntries {H : Type} : List (Lit × DataW H) → Nat
  | [] => 0
  | x :: r => uptoBulkEntry x + uptoBulkEntries r
def uptoBulkEntry {H : Type} : Lit × DataW H → Nat
  | (.string bytes, d) => bytes.length + uptoBulk d + 1
  | (_, d) => uptoBulk d + 1
 end
def uptoSmall : (H : Type) → List (DataW H) → Bool := fun _ ds => decide (uptoBulkAll ds ≤ 1048576)
def OpenSpec.upto (s : _root_.Go.ChangeSpec) : _root_.Go.OpenSpec := { _root_.Go.OpenSpec.ofChange s with cond := some uptoSmall }

/-- 'ripplelaw.Joins', WHERE WHAT IT READS IS OF BULK AT MOST 1048576: true; the input reads as it did. -/
def joinsUptoRow : OpenClaim := { program := "ytahdlejgjcjeoaadoor", sum := "fac3234dd07cc2f438143618e430f95ca2a68fb6b81b3b1c7f9c5ea388e847f8", func := "ripple/ripplelaw.Joins", spec := "joins", unfollowed := true, recurses := true, named := ["ripple/state.rules"], plainKeys := false, leaving := true, apart := false, laid := [("ripple/state.rules", laid_ripple_state_rules)], narrowed := true }
def JoinsUptoSaid : Prop := joinsUptoRow.holds Tryd.pinned (OpenSpec.upto joinsSpec)

/-- 'ripplelaw.Deltas', WHERE WHAT IT READS IS OF BULK AT MOST 1048576: true; the input reads as it did. -/
def deltasUptoRow : OpenClaim := { program := "ytahdlejgjcjeoaadoor", sum := "fac3234dd07cc2f438143618e430f95ca2a68fb6b81b3b1c7f9c5ea388e847f8", func := "ripple/ripplelaw.Deltas", spec := "deltas", unfollowed := true, recurses := true, named := ["ripple/state.rules"], plainKeys := false, leaving := true, apart := false, laid := [("ripple/state.rules", laid_ripple_state_rules)], narrowed := true }
def DeltasUptoSaid : Prop := deltasUptoRow.holds Tryd.pinned (OpenSpec.upto deltasSpec)

/-- 'ripplelaw.Reads', WHERE WHAT IT READS IS OF BULK AT MOST 1048576: true; the input reads as it did. -/
def readsUptoRow : OpenClaim := { program := "ytahdlejgjcjeoaadoor", sum := "fac3234dd07cc2f438143618e430f95ca2a68fb6b81b3b1c7f9c5ea388e847f8", func := "ripple/ripplelaw.Reads", spec := "reads", recurses := true, named := ["ripple/state.rules"], plainKeys := false, apart := false, laid := [("ripple/state.rules", laid_ripple_state_rules)], narrowed := true }
def ReadsUptoSaid : Prop := readsUptoRow.holds Tryd.pinned (OpenSpec.upto readsSpec)

/-- 'ripplelaw.Least', WHERE WHAT IT READS IS OF BULK AT MOST 1048576: true; the input reads as it did. -/
def leastUptoRow : OpenClaim := { program := "ytahdlejgjcjeoaadoor", sum := "fac3234dd07cc2f438143618e430f95ca2a68fb6b81b3b1c7f9c5ea388e847f8", func := "ripple/ripplelaw.Least", spec := "least", unfollowed := true, recurses := true, named := ["ripple/state.rules"], plainKeys := false, leaving := true, apart := false, laid := [("ripple/state.rules", laid_ripple_state_rules)], narrowed := true }
def LeastUptoSaid : Prop := leastUptoRow.holds Tryd.pinned (OpenSpec.upto leastSpec)

/-- 'ripplelaw.Codes', WHERE WHAT IT READS IS OF BULK AT MOST 1048576: true; the input reads as it did. -/
def codesUptoRow : OpenClaim := { program := "ytahdlejgjcjeoaadoor", sum := "fac3234dd07cc2f438143618e430f95ca2a68fb6b81b3b1c7f9c5ea388e847f8", func := "ripple/ripplelaw.Codes", spec := "codes", unfollowed := true, recurses := true, named := ["ripple/state.rules"], plainKeys := false, leaving := true, apart := false, laid := [("ripple/state.rules", laid_ripple_state_rules)], narrowed := true }
def CodesUptoSaid : Prop := codesUptoRow.holds Tryd.pinned (OpenSpec.upto codesSpec)

/-- 'ripplelaw.Back', WHERE WHAT IT READS IS OF BULK AT MOST 1048576: true; the input reads as it did. -/
def backUptoRow : OpenClaim := { program := "ytahdlejgjcjeoaadoor", sum := "fac3234dd07cc2f438143618e430f95ca2a68fb6b81b3b1c7f9c5ea388e847f8", func := "ripple/ripplelaw.Back", spec := "back", unfollowed := true, recurses := true, named := ["ripple/state.rules"], plainKeys := false, leaving := true, apart := false, laid := [("ripple/state.rules", laid_ripple_state_rules)], narrowed := true }
def BackUptoSaid : Prop := backUptoRow.holds Tryd.pinned (OpenSpec.upto backSpec)

end Rows
end Go.Proofs.YtahdlejgjcjeoaaDoor
