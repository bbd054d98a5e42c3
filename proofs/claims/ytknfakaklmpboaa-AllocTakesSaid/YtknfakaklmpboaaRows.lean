/-
  No cell of these rows narrows 'for every input' (looked for: loops, veiled, ifaces, maps, wideKeys, modest, calm, conditions, laid).
  DERIVED. THE GIVEN ROWS OF THIS SEAT. 3 by the template 'for every input the law returns true; each argument reads behind the call as it read before'; 0 by the template 'total and deterministic' (their statements: YtknfakaklmpboaaTotals.lean).
  GIVEN WITH THE SEED: the statements are not yours to turn. If you find one false, say at which input.
  Laid BY PROGRAM, IN A SANDBOX (cutbox-rows.mjs): the forced cells as the released guide's own fill.sh prints them over the translation 49f9796bdfce300b… (all of the seat's roots in one cut). By AI agents, Wed Nov 11 2026. No macro, syntax, notation, axiom, sorry.
-/
import Derived.Test.YtknfakaklmpboaaChecked
import GoSem.Claim
import GoSem.ClaimJoined
import GoSem.ClaimMapViews
import Derived.JoinedTies
import Derived.KernelRfl
namespace Go.Proofs.Ytknfakaklmpboaa
/- THE CELL 'sum', in the pinned program and in every row, IS THE sha256 OF THE DUMP (.gsa) THAT YtknfakaklmpboaaProg.lean LOADS. Nothing in Lean hashes anything: it is a label: what it is worth is what the hold of that sum in a sandbox is worth. -/
noncomputable def Try.pinned : Pinned := { name := "ytknfakaklmpboaa", sum := "49f9796bdfce300b73d2993fe3f43f43b1b916a3ae1b130d86e2094690e0d78c", checked := Try.checked }
namespace Rows
def none {H : Type} : Left H := { results := [], args := [] }

/-- 'stillagelaw10.AllocPicks': WHATEVER THE INPUT: true; the input reads as it did. -/
def allocPicksSpec : ChangeSpec := { name := "allocPicks", fn := fun _ => fun
  | [d] => { results := [.lit (.bool true)], args := [d] }
  | _ => none }
def allocPicksRow : OpenClaim := { program := "ytknfakaklmpboaa", sum := "49f9796bdfce300b73d2993fe3f43f43b1b916a3ae1b130d86e2094690e0d78c", func := "stillage/stillagelaw10.AllocPicks", spec := "allocPicks", unfollowed := true, recurses := true, apart := false }
def AllocPicksSaid : Prop := allocPicksRow.holds Try.pinned (OpenSpec.ofChange allocPicksSpec)

/-- ITS FALSE NEIGHBOUR: 'it returns false'. Refute it at one input. -/
def allocPicksWrong : ChangeSpec := { name := "allocPicks", fn := fun _ => fun
  | [d] => { results := [.lit (.bool false)], args := [d] }
  | _ => none }
def AllocPicksWrongFalsely : Prop := allocPicksRow.holds Try.pinned (OpenSpec.ofChange allocPicksWrong)

/-- 'stillagelaw10.AllocTakes': WHATEVER THE INPUT: true; the input reads as it did. -/
def allocTakesSpec : ChangeSpec := { name := "allocTakes", fn := fun _ => fun
  | [d] => { results := [.lit (.bool true)], args := [d] }
  | _ => none }
def allocTakesRow : OpenClaim := { program := "ytknfakaklmpboaa", sum := "49f9796bdfce300b73d2993fe3f43f43b1b916a3ae1b130d86e2094690e0d78c", func := "stillage/stillagelaw10.AllocTakes", spec := "allocTakes", unfollowed := true, recurses := true, apart := false }
def AllocTakesSaid : Prop := allocTakesRow.holds Try.pinned (OpenSpec.ofChange allocTakesSpec)

/-- ITS FALSE NEIGHBOUR: 'it returns false'. Refute it at one input. -/
def allocTakesWrong : ChangeSpec := { name := "allocTakes", fn := fun _ => fun
  | [d] => { results := [.lit (.bool false)], args := [d] }
  | _ => none }
def AllocTakesWrongFalsely : Prop := allocTakesRow.holds Try.pinned (OpenSpec.ofChange allocTakesWrong)

/-- 'stillagelaw10.AllocLess': WHATEVER THE INPUT: true; the input reads as it did. -/
def allocLessSpec : ChangeSpec := { name := "allocLess", fn := fun _ => fun
  | [d1, d2] => { results := [.lit (.bool true)], args := [d1, d2] }
  | _ => none }
def allocLessRow : OpenClaim := { program := "ytknfakaklmpboaa", sum := "49f9796bdfce300b73d2993fe3f43f43b1b916a3ae1b130d86e2094690e0d78c", func := "stillage/stillagelaw10.AllocLess", spec := "allocLess", unfollowed := true, recurses := true, apart := false }
def AllocLessSaid : Prop := allocLessRow.holds Try.pinned (OpenSpec.ofChange allocLessSpec)

/-- ITS FALSE NEIGHBOUR: 'it returns false'. Refute it at one input. -/
def allocLessWrong : ChangeSpec := { name := "allocLess", fn := fun _ => fun
  | [d1, d2] => { results := [.lit (.bool false)], args := [d1, d2] }
  | _ => none }
def AllocLessWrongFalsely : Prop := allocLessRow.holds Try.pinned (OpenSpec.ofChange allocLessWrong)

/- THE SECOND FORM. 'bulk': how many values and letters a reading holds, each counted each time it is reached (what is shared counts as often as it is met; a slice's spare places count too). A statement '..UptoSaid' is the law's where the arguments, and the package variables that the reading takes, are together of bulk at most 1048576: NARROWER than '..Said'. Prove '..Said' where nothing that the law and all that it calls make is longer than what came in: it says more and counts as full. Else prove '..UptoSaid'. A law counts once. -/
mutual
def uptoBulk {H : Type} : DataW H → Nat
  | .lit (.string bytes) => bytes.length + 1
  | .lit _ => 1
  | .nil => 1
  | .ptr d => uptoBulk d + 1
  | .slice elems spare => uptoBulkAll elems + uptoBulkAll spare + 1
  | .agg parts => uptoBulkAll parts + 1
  | .iface _ d => uptoBulk d + 1
  | .map entries => uptoBulkEntries entries + 1
  | .held _ => 1
def uptoBulkAll {H : Type} : List (DataW H) → Nat
  | [] => 0
  | d :: r => uptoBulk d + uptoBulkAll r
def uptoBulkEntries {H : Type} : List (Lit × DataW H) → Nat
  | [] => 0
  | x :: r => uptoBulkEntry x + uptoBulkEntries r
def uptoBulkEntry {H : Type} : Lit × DataW H → Nat
  | (.string bytes, d) => bytes.length + uptoBulk d + 1
  | (_, d) => uptoBulk d + 1
 end
def uptoSmall : (H : Type) → List (DataW H) → Bool := fun _ ds => decide (uptoBulkAll ds ≤ 1048576)
def OpenSpec.upto (s : _root_.Go.ChangeSpec) : _root_.Go.OpenSpec := { _root_.Go.OpenSpec.ofChange s with cond := some uptoSmall }

/-- 'stillagelaw10.AllocPicks', WHERE WHAT IT READS IS OF BULK AT MOST 1048576: true; the input reads as it did. -/
def allocPicksUptoRow : OpenClaim := { program := "ytknfakaklmpboaa", sum := "49f9796bdfce300b73d2993fe3f43f43b1b916a3ae1b130d86e2094690e0d78c", func := "stillage/stillagelaw10.AllocPicks", spec := "allocPicks", unfollowed := true, recurses := true, apart := false, narrowed := true }
def AllocPicksUptoSaid : Prop := allocPicksUptoRow.holds Try.pinned (OpenSpec.upto allocPicksSpec)

/-- 'stillagelaw10.AllocTakes', WHERE WHAT IT READS IS OF BULK AT MOST 1048576: true; the input reads as it did. -/
def allocTakesUptoRow : OpenClaim := { program := "ytknfakaklmpboaa", sum := "49f9796bdfce300b73d2993fe3f43f43b1b916a3ae1b130d86e2094690e0d78c", func := "stillage/stillagelaw10.AllocTakes", spec := "allocTakes", unfollowed := true, recurses := true, apart := false, narrowed := true }
def AllocTakesUptoSaid : Prop := allocTakesUptoRow.holds Try.pinned (OpenSpec.upto allocTakesSpec)

/-- 'stillagelaw10.AllocLess', WHERE WHAT IT READS IS OF BULK AT MOST 1048576: true; the input reads as it did. -/
def allocLessUptoRow : OpenClaim := { program := "ytknfakaklmpboaa", sum := "49f9796bdfce300b73d2993fe3f43f43b1b916a3ae1b130d86e2094690e0d78c", func := "stillage/stillagelaw10.AllocLess", spec := "allocLess", unfollowed := true, recurses := true, apart := false, narrowed := true }
def AllocLessUptoSaid : Prop := allocLessUptoRow.holds Try.pinned (OpenSpec.upto allocLessSpec)

end Rows
end Go.Proofs.Ytknfakaklmpboaa
