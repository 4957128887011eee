/-
  No cell of these rows narrows 'for every input' (looked for: loops, veiled, ifaces, maps, wideKeys, modest, calm, conditions, laid).
  DERIVED. THE GIVEN ROWS OF THIS SEAT. 6 by the template 'for every input the law returns true; each argument reads behind the call as it read before'; 0 by the template 'total and deterministic' (their statements: YtmpipgpbmppbjaaTotals.lean).
  GIVEN WITH THE SEED: the statements are not yours to turn. If you find one false, say at which input.
  Laid BY PROGRAM, IN A SANDBOX (cutbox-rows.mjs): the forced cells as the released guide's own fill.sh prints them over the translation 0c8c52b6695185e4… (all of the seat's roots in one cut). By AI agents, Wed Nov 11 2026. No macro, syntax, notation, axiom, sorry.
-/
import Derived.Test.YtmpipgpbmppbjaaChecked
import GoSem.Claim
import GoSem.ClaimJoined
import GoSem.ClaimMapViews
import Derived.JoinedTies
import Derived.KernelRfl
namespace Go.Proofs.Ytmpipgpbmppbjaa
/- THE CELL 'sum', in the pinned program and in every row, IS THE sha256 OF THE DUMP (.gsa) THAT YtmpipgpbmppbjaaProg.lean LOADS. Nothing in Lean hashes anything: it is a label: what it is worth is what the hold of that sum in a sandbox is worth. -/
noncomputable def Try.pinned : Pinned := { name := "ytmpipgpbmppbjaa", sum := "0c8c52b6695185e4a65d2dedfd4ffc4294c1adde8eee4c2b7ad05d1a82069f2b", checked := Try.checked }
namespace Rows
def none {H : Type} : Left H := { results := [], args := [] }

/-- 'castlaw.NestsSay': WHATEVER THE INPUT: true; the input reads as it did. -/
def nestsSaySpec : ChangeSpec := { name := "nestsSay", fn := fun _ => fun
  | [d1, d2, d3, d4, d5] => { results := [.lit (.bool true)], args := [d1, d2, d3, d4, d5] }
  | _ => none }
def nestsSayRow : OpenClaim := { program := "ytmpipgpbmppbjaa", sum := "0c8c52b6695185e4a65d2dedfd4ffc4294c1adde8eee4c2b7ad05d1a82069f2b", func := "lotcaster/castlaw.NestsSay", spec := "nestsSay", apart := false }
def NestsSaySaid : Prop := nestsSayRow.holds Try.pinned (OpenSpec.ofChange nestsSaySpec)

/-- ITS FALSE NEIGHBOUR: 'it returns false'. Refute it at one input. -/
def nestsSayWrong : ChangeSpec := { name := "nestsSay", fn := fun _ => fun
  | [d1, d2, d3, d4, d5] => { results := [.lit (.bool false)], args := [d1, d2, d3, d4, d5] }
  | _ => none }
def NestsSayWrongFalsely : Prop := nestsSayRow.holds Try.pinned (OpenSpec.ofChange nestsSayWrong)

/-- 'castkeep.NestsBack': WHATEVER THE INPUT: true; the input reads as it did. -/
def nestsBackSpec : ChangeSpec := { name := "nestsBack", fn := fun _ => fun
  | [d1, d2, d3] => { results := [.lit (.bool true)], args := [d1, d2, d3] }
  | _ => none }
def nestsBackRow : OpenClaim := { program := "ytmpipgpbmppbjaa", sum := "0c8c52b6695185e4a65d2dedfd4ffc4294c1adde8eee4c2b7ad05d1a82069f2b", func := "lotcaster/castkeep.NestsBack", spec := "nestsBack", unfollowed := true, recurses := true, apart := false }
def NestsBackSaid : Prop := nestsBackRow.holds Try.pinned (OpenSpec.ofChange nestsBackSpec)

/-- ITS FALSE NEIGHBOUR: 'it returns false'. Refute it at one input. -/
def nestsBackWrong : ChangeSpec := { name := "nestsBack", fn := fun _ => fun
  | [d1, d2, d3] => { results := [.lit (.bool false)], args := [d1, d2, d3] }
  | _ => none }
def NestsBackWrongFalsely : Prop := nestsBackRow.holds Try.pinned (OpenSpec.ofChange nestsBackWrong)

/-- 'castkeep.NestsSegner': WHATEVER THE INPUT: true; the input reads as it did. -/
def nestsSegnerSpec : ChangeSpec := { name := "nestsSegner", fn := fun _ => fun
  | [d] => { results := [.lit (.bool true)], args := [d] }
  | _ => none }
def nestsSegnerRow : OpenClaim := { program := "ytmpipgpbmppbjaa", sum := "0c8c52b6695185e4a65d2dedfd4ffc4294c1adde8eee4c2b7ad05d1a82069f2b", func := "lotcaster/castkeep.NestsSegner", spec := "nestsSegner", unfollowed := true, recurses := true, apart := false }
def NestsSegnerSaid : Prop := nestsSegnerRow.holds Try.pinned (OpenSpec.ofChange nestsSegnerSpec)

/-- ITS FALSE NEIGHBOUR: 'it returns false'. Refute it at one input. -/
def nestsSegnerWrong : ChangeSpec := { name := "nestsSegner", fn := fun _ => fun
  | [d] => { results := [.lit (.bool false)], args := [d] }
  | _ => none }
def NestsSegnerWrongFalsely : Prop := nestsSegnerRow.holds Try.pinned (OpenSpec.ofChange nestsSegnerWrong)

/-- 'castkeep.NestsJoin': WHATEVER THE INPUT: true; the input reads as it did. -/
def nestsJoinSpec : ChangeSpec := { name := "nestsJoin", fn := fun _ => fun
  | [d1, d2, d3] => { results := [.lit (.bool true)], args := [d1, d2, d3] }
  | _ => none }
def nestsJoinRow : OpenClaim := { program := "ytmpipgpbmppbjaa", sum := "0c8c52b6695185e4a65d2dedfd4ffc4294c1adde8eee4c2b7ad05d1a82069f2b", func := "lotcaster/castkeep.NestsJoin", spec := "nestsJoin", inPlace := ["internal/bytealg.CountString", "internal/bytealg.IndexByteString", "internal/bytealg.IndexString"], unfollowed := true, recurses := true, named := ["internal/bytealg.MaxLen"], apart := false }
def NestsJoinSaid : Prop := nestsJoinRow.holds Try.pinned (OpenSpec.ofChange nestsJoinSpec)

/-- ITS FALSE NEIGHBOUR: 'it returns false'. Refute it at one input. -/
def nestsJoinWrong : ChangeSpec := { name := "nestsJoin", fn := fun _ => fun
  | [d1, d2, d3] => { results := [.lit (.bool false)], args := [d1, d2, d3] }
  | _ => none }
def NestsJoinWrongFalsely : Prop := nestsJoinRow.holds Try.pinned (OpenSpec.ofChange nestsJoinWrong)

/-- 'castkeep.NestsBallot': WHATEVER THE INPUT: true; the input reads as it did. -/
def nestsBallotSpec : ChangeSpec := { name := "nestsBallot", fn := fun _ => fun
  | [d1, d2] => { results := [.lit (.bool true)], args := [d1, d2] }
  | _ => none }
def nestsBallotRow : OpenClaim := { program := "ytmpipgpbmppbjaa", sum := "0c8c52b6695185e4a65d2dedfd4ffc4294c1adde8eee4c2b7ad05d1a82069f2b", func := "lotcaster/castkeep.NestsBallot", spec := "nestsBallot", unfollowed := true, recurses := true, apart := false }
def NestsBallotSaid : Prop := nestsBallotRow.holds Try.pinned (OpenSpec.ofChange nestsBallotSpec)

/-- ITS FALSE NEIGHBOUR: 'it returns false'. Refute it at one input. -/
def nestsBallotWrong : ChangeSpec := { name := "nestsBallot", fn := fun _ => fun
  | [d1, d2] => { results := [.lit (.bool false)], args := [d1, d2] }
  | _ => none }
def NestsBallotWrongFalsely : Prop := nestsBallotRow.holds Try.pinned (OpenSpec.ofChange nestsBallotWrong)

/-- 'castkeep.NestsNarayana': WHATEVER THE INPUT: true; the input reads as it did. -/
def nestsNarayanaSpec : ChangeSpec := { name := "nestsNarayana", fn := fun _ => fun
  | [d1, d2] => { results := [.lit (.bool true)], args := [d1, d2] }
  | _ => none }
def nestsNarayanaRow : OpenClaim := { program := "ytmpipgpbmppbjaa", sum := "0c8c52b6695185e4a65d2dedfd4ffc4294c1adde8eee4c2b7ad05d1a82069f2b", func := "lotcaster/castkeep.NestsNarayana", spec := "nestsNarayana", inPlace := ["internal/bytealg.CountString", "internal/bytealg.IndexByteString", "internal/bytealg.IndexString"], unfollowed := true, recurses := true, named := ["internal/bytealg.MaxLen"], apart := false }
def NestsNarayanaSaid : Prop := nestsNarayanaRow.holds Try.pinned (OpenSpec.ofChange nestsNarayanaSpec)

/-- ITS FALSE NEIGHBOUR: 'it returns false'. Refute it at one input. -/
def nestsNarayanaWrong : ChangeSpec := { name := "nestsNarayana", fn := fun _ => fun
  | [d1, d2] => { results := [.lit (.bool false)], args := [d1, d2] }
  | _ => none }
def NestsNarayanaWrongFalsely : Prop := nestsNarayanaRow.holds Try.pinned (OpenSpec.ofChange nestsNarayanaWrong)

/- THE SECOND FORM. 'bulk': how many values and letters a reading holds, each counted each time it is reached (what is shared counts as often as it is met; a slice's spare places count too). A statement '..UptoSaid' is the law's where the arguments, and the package variables that the reading takes, are together of bulk at most 1048576: NARROWER than '..Said'. Prove '..Said' where nothing that the law and all that it calls make is longer than what came in: it says more and counts as full. Else prove '..UptoSaid'. A law counts once. -/
mutual
def uptoBulk {H : Type} : DataW H → Nat
  | .lit (.string bytes) => bytes.length + 1
  | .lit _ => 1
  | .nil => 1
  | .ptr d => uptoBulk d + 1
  | .slice elems spare => uptoBulkAll elems + uptoBulkAll spare + 1
  | .agg parts => uptoBulkAll parts + 1
  | .iface _ d => uptoBulk d + 1
  | .map entries => uptoBulkEntries entries + 1
  | .held _ => 1
def uptoBulkAll {H : Type} : List (DataW H) → Nat
  | [] => 0
  | d :: r => uptoBulk d + uptoBulkAll r
def uptoBulkEntries {H : Type} : List (Lit × DataW H) → Nat
  | [] => 0
  | x :: r => uptoBulkEntry x + uptoBulkEntries r
def uptoBulkEntry {H : Type} : Lit × DataW H → Nat
  | (.string bytes, d) => bytes.length + uptoBulk d + 1
  | (_, d) => uptoBulk d + 1
 end
def uptoSmall : (H : Type) → List (DataW H) → Bool := fun _ ds => decide (uptoBulkAll ds ≤ 1048576)
def OpenSpec.upto (s : _root_.Go.ChangeSpec) : _root_.Go.OpenSpec := { _root_.Go.OpenSpec.ofChange s with cond := some uptoSmall }

/-- 'castlaw.NestsSay', WHERE WHAT IT READS IS OF BULK AT MOST 1048576: true; the input reads as it did. -/
def nestsSayUptoRow : OpenClaim := { program := "ytmpipgpbmppbjaa", sum := "0c8c52b6695185e4a65d2dedfd4ffc4294c1adde8eee4c2b7ad05d1a82069f2b", func := "lotcaster/castlaw.NestsSay", spec := "nestsSay", apart := false, narrowed := true }
def NestsSayUptoSaid : Prop := nestsSayUptoRow.holds Try.pinned (OpenSpec.upto nestsSaySpec)

/-- 'castkeep.NestsBack', WHERE WHAT IT READS IS OF BULK AT MOST 1048576: true; the input reads as it did. -/
def nestsBackUptoRow : OpenClaim := { program := "ytmpipgpbmppbjaa", sum := "0c8c52b6695185e4a65d2dedfd4ffc4294c1adde8eee4c2b7ad05d1a82069f2b", func := "lotcaster/castkeep.NestsBack", spec := "nestsBack", unfollowed := true, recurses := true, apart := false, narrowed := true }
def NestsBackUptoSaid : Prop := nestsBackUptoRow.holds Try.pinned (OpenSpec.upto nestsBackSpec)

/-- 'castkeep.NestsSegner', WHERE WHAT IT READS IS OF BULK AT MOST 1048576: true; the input reads as it did. -/
def nestsSegnerUptoRow : OpenClaim := { program := "ytmpipgpbmppbjaa", sum := "0c8c52b6695185e4a65d2dedfd4ffc4294c1adde8eee4c2b7ad05d1a82069f2b", func := "lotcaster/castkeep.NestsSegner", spec := "nestsSegner", unfollowed := true, recurses := true, apart := false, narrowed := true }
def NestsSegnerUptoSaid : Prop := nestsSegnerUptoRow.holds Try.pinned (OpenSpec.upto nestsSegnerSpec)

/-- 'castkeep.NestsJoin', WHERE WHAT IT READS IS OF BULK AT MOST 1048576: true; the input reads as it did. -/
def nestsJoinUptoRow : OpenClaim := { program := "ytmpipgpbmppbjaa", sum := "0c8c52b6695185e4a65d2dedfd4ffc4294c1adde8eee4c2b7ad05d1a82069f2b", func := "lotcaster/castkeep.NestsJoin", spec := "nestsJoin", inPlace := ["internal/bytealg.CountString", "internal/bytealg.IndexByteString", "internal/bytealg.IndexString"], unfollowed := true, recurses := true, named := ["internal/bytealg.MaxLen"], apart := false, narrowed := true }
def NestsJoinUptoSaid : Prop := nestsJoinUptoRow.holds Try.pinned (OpenSpec.upto nestsJoinSpec)

/-- 'castkeep.NestsBallot', WHERE WHAT IT READS IS OF BULK AT MOST 1048576: true; the input reads as it did. -/
def nestsBallotUptoRow : OpenClaim := { program := "ytmpipgpbmppbjaa", sum := "0c8c52b6695185e4a65d2dedfd4ffc4294c1adde8eee4c2b7ad05d1a82069f2b", func := "lotcaster/castkeep.NestsBallot", spec := "nestsBallot", unfollowed := true, recurses := true, apart := false, narrowed := true }
def NestsBallotUptoSaid : Prop := nestsBallotUptoRow.holds Try.pinned (OpenSpec.upto nestsBallotSpec)

/-- 'castkeep.NestsNarayana', WHERE WHAT IT READS IS OF BULK AT MOST 1048576: true; the input reads as it did. -/
def nestsNarayanaUptoRow : OpenClaim := { program := "ytmpipgpbmppbjaa", sum := "0c8c52b6695185e4a65d2dedfd4ffc4294c1adde8eee4c2b7ad05d1a82069f2b", func := "lotcaster/castkeep.NestsNarayana", spec := "nestsNarayana", inPlace := ["internal/bytealg.CountString", "internal/bytealg.IndexByteString", "internal/bytealg.IndexString"], unfollowed := true, recurses := true, named := ["internal/bytealg.MaxLen"], apart := false, narrowed := true }
def NestsNarayanaUptoSaid : Prop := nestsNarayanaUptoRow.holds Try.pinned (OpenSpec.upto nestsNarayanaSpec)

end Rows
end Go.Proofs.Ytmpipgpbmppbjaa
