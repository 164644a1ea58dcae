/-
  NARROWER THAN 'FOR EVERY INPUT', by the rows' own cells (each row's printed sentence says how): FnRopes: laid · FnSplit: laid · FnUndone: laid · FnLines: laid · FnExactNewMeeting: laid · FnExactGoodMeeting: laid.
  DERIVED. THE GIVEN ROWS OF THIS SEAT. 6 by the template 'for every input the law returns true; each argument reads behind the call as it read before'; 0 by the template 'total and deterministic' (their statements: YtkjioadmebkaoaaDoorTotals.lean).
  GIVEN WITH THE SEED: the statements are not yours to turn. If you find one false, say at which input.
  Laid BY PROGRAM, IN A SANDBOX (cutbox-rows.mjs): the forced cells as the released guide's own fill.sh prints them over the translation 656dbc9bfd66e2a6… (all of the seat's roots in one cut). By AI agents, Wed Nov 11 2026. No macro, syntax, notation, axiom, sorry.
-/
import Derived.Test.YtkjioadmebkaoaaDoorChecked
import GoSem.PinnedTables
import GoSem.Claim
import GoSem.ClaimJoined
import GoSem.ClaimMapViews
import Derived.JoinedTies
import Derived.KernelRfl
namespace Go.Proofs.YtkjioadmebkaoaaDoor
/- THE CELL 'sum', in the pinned program and in every row, IS THE sha256 OF THE DUMP (.gsa) THAT YtkjioadmebkaoaaDoorProg.lean LOADS. Nothing in Lean hashes anything: it is a label: what it is worth is what the hold of that sum in a sandbox is worth. -/
noncomputable def Tryd.pinned : Pinned := { name := "ytkjioadmebkaoaadoor", sum := "656dbc9bfd66e2a6dce7aee4cb3457dbb7d9ea0f3d259e5537d6d7a4a9716d80", checked := Tryd.checked }
namespace Rows
def none {H : Type} : Left H := { results := [], args := [] }

/- WHAT THE LISTED PACKAGE-LEVEL VARIABLES READ AS WHEN THE CALL BEGINS. Each datum BY PROGRAM (the guide's laid-datum.mjs) off the statement by which the dump's own 'gosem.cut.vars' lays the variable. In a bare row this is a premise. The card (YtkjioadmebkaoaaDoorCards.lean) ties it to the program's text. -/
def laid_loop_example_g00253_impl_byteKinds {H : Type} : DataW H := .agg [.lit (.int .u8 0), .lit (.int .u8 0), .lit (.int .u8 0), .lit (.int .u8 0), .lit (.int .u8 0), .lit (.int .u8 0), .lit (.int .u8 0), .lit (.int .u8 0), .lit (.int .u8 0), .lit (.int .u8 0), .lit (.int .u8 0), .lit (.int .u8 0), .lit (.int .u8 0), .lit (.int .u8 0), .lit (.int .u8 0), .lit (.int .u8 0), .lit (.int .u8 0), .lit (.int .u8 0), .lit (.int .u8 0), .lit (.int .u8 0), .lit (.int .u8 0), .lit (.int .u8 0), .lit (.int .u8 0), .lit (.int .u8 0), .lit (.int .u8 0), .lit (.int .u8 0), .lit (.int .u8 0), .lit (.int .u8 0), .lit (.int .u8 0), .lit (.int .u8 0), .lit (.int .u8 0), .lit (.int .u8 0), .lit (.int .u8 1), .lit (.int .u8 0), .lit (.int .u8 0), .lit (.int .u8 0), .lit (.int .u8 0), .lit (.int .u8 0), .lit (.int .u8 0), .lit (.int .u8 0), .lit (.int .u8 0), .lit (.int .u8 0), .lit (.int .u8 0), .lit (.int .u8 0), .lit (.int .u8 1), .lit (.int .u8 0), .lit (.int .u8 1), .lit (.int .u8 3), .lit (.int .u8 1), .lit (.int .u8 1), .lit (.int .u8 1), .lit (.int .u8 1), .lit (.int .u8 1), .lit (.int .u8 1), .lit (.int .u8 1), .lit (.int .u8 1), .lit (.int .u8 1), .lit (.int .u8 1), .lit (.int .u8 0), .lit (.int .u8 0), .lit (.int .u8 0), .lit (.int .u8 0), .lit (.int .u8 0), .lit (.int .u8 0), .lit (.int .u8 0), .lit (.int .u8 2), .lit (.int .u8 2), .lit (.int .u8 2), .lit (.int .u8 2), .lit (.int .u8 2), .lit (.int .u8 2), .lit (.int .u8 0), .lit (.int .u8 0), .lit (.int .u8 0), .lit (.int .u8 0), .lit (.int .u8 0), .lit (.int .u8 0), .lit (.int .u8 0), .lit (.int .u8 0), .lit (.int .u8 0), .lit (.int .u8 0), .lit (.int .u8 0), .lit (.int .u8 0), .lit (.int .u8 0), .lit (.int .u8 0), .lit (.int .u8 0), .lit (.int .u8 0), .lit (.int .u8 0), .lit (.int .u8 0), .lit (.int .u8 0), .lit (.int .u8 0), .lit (.int .u8 0), .lit (.int .u8 0), .lit (.int .u8 0), .lit (.int .u8 0), .lit (.int .u8 0), .lit (.int .u8 0), .lit (.int .u8 1), .lit (.int .u8 1), .lit (.int .u8 1), .lit (.int .u8 1), .lit (.int .u8 1), .lit (.int .u8 1), .lit (.int .u8 1), .lit (.int .u8 1), .lit (.int .u8 1), .lit (.int .u8 1), .lit (.int .u8 1), .lit (.int .u8 1), .lit (.int .u8 1), .lit (.int .u8 1), .lit (.int .u8 1), .lit (.int .u8 1), .lit (.int .u8 1), .lit (.int .u8 1), .lit (.int .u8 1), .lit (.int .u8 1), .lit (.int .u8 1), .lit (.int .u8 1), .lit (.int .u8 1), .lit (.int .u8 1), .lit (.int .u8 1), .lit (.int .u8 1)]
def laid_unicode_utf8_acceptRanges {H : Type} : DataW H := .agg [.agg [.lit (.int .u8 128), .lit (.int .u8 191)], .agg [.lit (.int .u8 160), .lit (.int .u8 191)], .agg [.lit (.int .u8 128), .lit (.int .u8 159)], .agg [.lit (.int .u8 144), .lit (.int .u8 191)], .agg [.lit (.int .u8 128), .lit (.int .u8 143)], .agg [.lit (.int .u8 0), .lit (.int .u8 0)], .agg [.lit (.int .u8 0), .lit (.int .u8 0)], .agg [.lit (.int .u8 0), .lit (.int .u8 0)], .agg [.lit (.int .u8 0), .lit (.int .u8 0)], .agg [.lit (.int .u8 0), .lit (.int .u8 0)], .agg [.lit (.int .u8 0), .lit (.int .u8 0)], .agg [.lit (.int .u8 0), .lit (.int .u8 0)], .agg [.lit (.int .u8 0), .lit (.int .u8 0)], .agg [.lit (.int .u8 0), .lit (.int .u8 0)], .agg [.lit (.int .u8 0), .lit (.int .u8 0)], .agg [.lit (.int .u8 0), .lit (.int .u8 0)]]
/-- One of Go's own tables, pinned by name: the form's constant. -/
def laid_unicode_utf8_first : DataW Unit := Go.Pinned.utf8First

/-- 'laws.FnRopes': WHATEVER THE INPUT: true; the input reads as it did. -/
def fnRopesSpec : ChangeSpec := { name := "fnRopes", vars := ["loop.example/g00253/impl.byteKinds"], fn := fun _ => fun
  | [d1, d2, g1] => { results := [.lit (.bool true)], args := [d1, d2], vars := [g1] }
  | _ => none }
def fnRopesRow : OpenClaim := { program := "ytkjioadmebkaoaadoor", sum := "656dbc9bfd66e2a6dce7aee4cb3457dbb7d9ea0f3d259e5537d6d7a4a9716d80", func := "loop.example/g00253/laws.FnRopes", spec := "fnRopes", unfollowed := true, recurses := true, named := ["loop.example/g00253/impl.byteKinds"], apart := false, laid := [("loop.example/g00253/impl.byteKinds", laid_loop_example_g00253_impl_byteKinds)] }
def FnRopesSaid : Prop := fnRopesRow.holds Tryd.pinned (OpenSpec.ofChange fnRopesSpec)

/-- ITS FALSE NEIGHBOUR: 'it returns false'. Refute it at one input. -/
def fnRopesWrong : ChangeSpec := { name := "fnRopes", vars := ["loop.example/g00253/impl.byteKinds"], fn := fun _ => fun
  | [d1, d2, g1] => { results := [.lit (.bool false)], args := [d1, d2], vars := [g1] }
  | _ => none }
def FnRopesWrongFalsely : Prop := fnRopesRow.holds Tryd.pinned (OpenSpec.ofChange fnRopesWrong)

/-- 'laws.FnSplit': WHATEVER THE INPUT: true; the input reads as it did. -/
def fnSplitSpec : ChangeSpec := { name := "fnSplit", vars := ["loop.example/g00253/impl.byteKinds"], fn := fun _ => fun
  | [d1, d2, g1] => { results := [.lit (.bool true)], args := [d1, d2], vars := [g1] }
  | _ => none }
def fnSplitRow : OpenClaim := { program := "ytkjioadmebkaoaadoor", sum := "656dbc9bfd66e2a6dce7aee4cb3457dbb7d9ea0f3d259e5537d6d7a4a9716d80", func := "loop.example/g00253/laws.FnSplit", spec := "fnSplit", unfollowed := true, recurses := true, named := ["loop.example/g00253/impl.byteKinds"], apart := false, laid := [("loop.example/g00253/impl.byteKinds", laid_loop_example_g00253_impl_byteKinds)] }
def FnSplitSaid : Prop := fnSplitRow.holds Tryd.pinned (OpenSpec.ofChange fnSplitSpec)

/-- ITS FALSE NEIGHBOUR: 'it returns false'. Refute it at one input. -/
def fnSplitWrong : ChangeSpec := { name := "fnSplit", vars := ["loop.example/g00253/impl.byteKinds"], fn := fun _ => fun
  | [d1, d2, g1] => { results := [.lit (.bool false)], args := [d1, d2], vars := [g1] }
  | _ => none }
def FnSplitWrongFalsely : Prop := fnSplitRow.holds Tryd.pinned (OpenSpec.ofChange fnSplitWrong)

/-- 'laws.FnUndone': WHATEVER THE INPUT: true; the input reads as it did. -/
def fnUndoneSpec : ChangeSpec := { name := "fnUndone", vars := ["loop.example/g00253/impl.byteKinds"], fn := fun _ => fun
  | [d1, d2, g1] => { results := [.lit (.bool true)], args := [d1, d2], vars := [g1] }
  | _ => none }
def fnUndoneRow : OpenClaim := { program := "ytkjioadmebkaoaadoor", sum := "656dbc9bfd66e2a6dce7aee4cb3457dbb7d9ea0f3d259e5537d6d7a4a9716d80", func := "loop.example/g00253/laws.FnUndone", spec := "fnUndone", unfollowed := true, recurses := true, named := ["loop.example/g00253/impl.byteKinds"], apart := false, laid := [("loop.example/g00253/impl.byteKinds", laid_loop_example_g00253_impl_byteKinds)] }
def FnUndoneSaid : Prop := fnUndoneRow.holds Tryd.pinned (OpenSpec.ofChange fnUndoneSpec)

/-- ITS FALSE NEIGHBOUR: 'it returns false'. Refute it at one input. -/
def fnUndoneWrong : ChangeSpec := { name := "fnUndone", vars := ["loop.example/g00253/impl.byteKinds"], fn := fun _ => fun
  | [d1, d2, g1] => { results := [.lit (.bool false)], args := [d1, d2], vars := [g1] }
  | _ => none }
def FnUndoneWrongFalsely : Prop := fnUndoneRow.holds Tryd.pinned (OpenSpec.ofChange fnUndoneWrong)

/-- 'laws.FnLines': WHATEVER THE INPUT: true; the input reads as it did. -/
def fnLinesSpec : ChangeSpec := { name := "fnLines", vars := ["loop.example/g00253/impl.byteKinds"], fn := fun _ => fun
  | [d1, d2, g1] => { results := [.lit (.bool true)], args := [d1, d2], vars := [g1] }
  | _ => none }
def fnLinesRow : OpenClaim := { program := "ytkjioadmebkaoaadoor", sum := "656dbc9bfd66e2a6dce7aee4cb3457dbb7d9ea0f3d259e5537d6d7a4a9716d80", func := "loop.example/g00253/laws.FnLines", spec := "fnLines", inPlace := ["internal/bytealg.CountString", "internal/bytealg.IndexByteString", "internal/bytealg.IndexString"], named := ["loop.example/g00253/impl.byteKinds", "unicode/utf8.first", "unicode/utf8.acceptRanges", "internal/bytealg.MaxLen"], apart := false, laid := [("unicode/utf8.acceptRanges", laid_unicode_utf8_acceptRanges), ("loop.example/g00253/impl.byteKinds", laid_loop_example_g00253_impl_byteKinds), ("unicode/utf8.first", laid_unicode_utf8_first)] }
def FnLinesSaid : Prop := fnLinesRow.holds Tryd.pinned (OpenSpec.ofChange fnLinesSpec)

/-- ITS FALSE NEIGHBOUR: 'it returns false'. Refute it at one input. -/
def fnLinesWrong : ChangeSpec := { name := "fnLines", vars := ["loop.example/g00253/impl.byteKinds"], fn := fun _ => fun
  | [d1, d2, g1] => { results := [.lit (.bool false)], args := [d1, d2], vars := [g1] }
  | _ => none }
def FnLinesWrongFalsely : Prop := fnLinesRow.holds Tryd.pinned (OpenSpec.ofChange fnLinesWrong)

/-- 'laws.FnExactNewMeeting': WHATEVER THE INPUT: true; the input reads as it did. -/
def fnExactNewMeetingSpec : ChangeSpec := { name := "fnExactNewMeeting", vars := ["loop.example/g00253/impl.byteKinds"], fn := fun _ => fun
  | [d1, d2, g1] => { results := [.lit (.bool true)], args := [d1, d2], vars := [g1] }
  | _ => none }
def fnExactNewMeetingRow : OpenClaim := { program := "ytkjioadmebkaoaadoor", sum := "656dbc9bfd66e2a6dce7aee4cb3457dbb7d9ea0f3d259e5537d6d7a4a9716d80", func := "loop.example/g00253/laws.FnExactNewMeeting", spec := "fnExactNewMeeting", named := ["loop.example/g00253/impl.byteKinds"], apart := false, laid := [("loop.example/g00253/impl.byteKinds", laid_loop_example_g00253_impl_byteKinds)] }
def FnExactNewMeetingSaid : Prop := fnExactNewMeetingRow.holds Tryd.pinned (OpenSpec.ofChange fnExactNewMeetingSpec)

/-- ITS FALSE NEIGHBOUR: 'it returns false'. Refute it at one input. -/
def fnExactNewMeetingWrong : ChangeSpec := { name := "fnExactNewMeeting", vars := ["loop.example/g00253/impl.byteKinds"], fn := fun _ => fun
  | [d1, d2, g1] => { results := [.lit (.bool false)], args := [d1, d2], vars := [g1] }
  | _ => none }
def FnExactNewMeetingWrongFalsely : Prop := fnExactNewMeetingRow.holds Tryd.pinned (OpenSpec.ofChange fnExactNewMeetingWrong)

/-- 'laws.FnExactGoodMeeting': WHATEVER THE INPUT: true; the input reads as it did. -/
def fnExactGoodMeetingSpec : ChangeSpec := { name := "fnExactGoodMeeting", vars := ["loop.example/g00253/impl.byteKinds"], fn := fun _ => fun
  | [d, g1] => { results := [.lit (.bool true)], args := [d], vars := [g1] }
  | _ => none }
def fnExactGoodMeetingRow : OpenClaim := { program := "ytkjioadmebkaoaadoor", sum := "656dbc9bfd66e2a6dce7aee4cb3457dbb7d9ea0f3d259e5537d6d7a4a9716d80", func := "loop.example/g00253/laws.FnExactGoodMeeting", spec := "fnExactGoodMeeting", unfollowed := true, recurses := true, named := ["loop.example/g00253/impl.byteKinds"], apart := false, laid := [("loop.example/g00253/impl.byteKinds", laid_loop_example_g00253_impl_byteKinds)] }
def FnExactGoodMeetingSaid : Prop := fnExactGoodMeetingRow.holds Tryd.pinned (OpenSpec.ofChange fnExactGoodMeetingSpec)

/-- ITS FALSE NEIGHBOUR: 'it returns false'. Refute it at one input. -/
def fnExactGoodMeetingWrong : ChangeSpec := { name := "fnExactGoodMeeting", vars := ["loop.example/g00253/impl.byteKinds"], fn := fun _ => fun
  | [d, g1] => { results := [.lit (.bool false)], args := [d], vars := [g1] }
  | _ => none }
def FnExactGoodMeetingWrongFalsely : Prop := fnExactGoodMeetingRow.holds Tryd.pinned (OpenSpec.ofChange fnExactGoodMeetingWrong)

/- THE SECOND FORM. 'bulk': how many values and letters a reading holds, each counted each time it is reached (what is shared counts as often as it is met; a slice's spare places count too). A statement '..UptoSaid' is the law's where the arguments, and the package variables that the reading takes, are together of bulk at most 1048576: NARROWER than '..Said'. Prove '..Said' where nothing that the law and all that it calls make is longer than what came in: it says more and counts as full. Else prove '..UptoSaid'. A law counts once. -/
mutual
def uptoBulk {H : Type} : DataW H → Nat
  | .lit (.string bytes) => bytes.length + 1
  | .lit _ => 1
  | .nil => 1
  | .ptr d => uptoBulk d + 1
  | .slice elems spare => uptoBulkAll elems + uptoBulkAll spare + 1
  | .agg parts => uptoBulkAll parts + 1
  | .iface _ d => uptoBulk d + 1
  | .map entries => uptoBulkEntries entries + 1
  | .held _ => 1
def uptoBulkAll {H : Type} : List (DataW H) → Nat
  | [] => 0
  | d :: r => uptoBulk d + uptoBulkAll r
def uptoBulkEntries {H : Type} : List (Lit × DataW H) → Nat
  | [] => 0
  | x :: r => uptoBulkEntry x + uptoBulkEntries r
def uptoBulkEntry {H : Type} : Lit × DataW H → Nat
  | (.string bytes, d) => bytes.length + uptoBulk d + 1
  | (_, d) => uptoBulk d + 1
 end
def uptoSmall : (H : Type) → List (DataW H) → Bool := fun _ ds => decide (uptoBulkAll ds ≤ 1048576)
def OpenSpec.upto (s : _root_.Go.ChangeSpec) : _root_.Go.OpenSpec := { _root_.Go.OpenSpec.ofChange s with cond := some uptoSmall }

/-- 'laws.FnRopes', WHERE WHAT IT READS IS OF BULK AT MOST 1048576: true; the input reads as it did. -/
def fnRopesUptoRow : OpenClaim := { program := "ytkjioadmebkaoaadoor", sum := "656dbc9bfd66e2a6dce7aee4cb3457dbb7d9ea0f3d259e5537d6d7a4a9716d80", func := "loop.example/g00253/laws.FnRopes", spec := "fnRopes", unfollowed := true, recurses := true, named := ["loop.example/g00253/impl.byteKinds"], apart := false, laid := [("loop.example/g00253/impl.byteKinds", laid_loop_example_g00253_impl_byteKinds)], narrowed := true }
def FnRopesUptoSaid : Prop := fnRopesUptoRow.holds Tryd.pinned (OpenSpec.upto fnRopesSpec)

/-- 'laws.FnSplit', WHERE WHAT IT READS IS OF BULK AT MOST 1048576: true; the input reads as it did. -/
def fnSplitUptoRow : OpenClaim := { program := "ytkjioadmebkaoaadoor", sum := "656dbc9bfd66e2a6dce7aee4cb3457dbb7d9ea0f3d259e5537d6d7a4a9716d80", func := "loop.example/g00253/laws.FnSplit", spec := "fnSplit", unfollowed := true, recurses := true, named := ["loop.example/g00253/impl.byteKinds"], apart := false, laid := [("loop.example/g00253/impl.byteKinds", laid_loop_example_g00253_impl_byteKinds)], narrowed := true }
def FnSplitUptoSaid : Prop := fnSplitUptoRow.holds Tryd.pinned (OpenSpec.upto fnSplitSpec)

/-- 'laws.FnUndone', WHERE WHAT IT READS IS OF BULK AT MOST 1048576: true; the input reads as it did. -/
def fnUndoneUptoRow : OpenClaim := { program := "ytkjioadmebkaoaadoor", sum := "656dbc9bfd66e2a6dce7aee4cb3457dbb7d9ea0f3d259e5537d6d7a4a9716d80", func := "loop.example/g00253/laws.FnUndone", spec := "fnUndone", unfollowed := true, recurses := true, named := ["loop.example/g00253/impl.byteKinds"], apart := false, laid := [("loop.example/g00253/impl.byteKinds", laid_loop_example_g00253_impl_byteKinds)], narrowed := true }
def FnUndoneUptoSaid : Prop := fnUndoneUptoRow.holds Tryd.pinned (OpenSpec.upto fnUndoneSpec)

/-- 'laws.FnLines', WHERE WHAT IT READS IS OF BULK AT MOST 1048576: true; the input reads as it did. -/
def fnLinesUptoRow : OpenClaim := { program := "ytkjioadmebkaoaadoor", sum := "656dbc9bfd66e2a6dce7aee4cb3457dbb7d9ea0f3d259e5537d6d7a4a9716d80", func := "loop.example/g00253/laws.FnLines", spec := "fnLines", inPlace := ["internal/bytealg.CountString", "internal/bytealg.IndexByteString", "internal/bytealg.IndexString"], named := ["loop.example/g00253/impl.byteKinds", "unicode/utf8.first", "unicode/utf8.acceptRanges", "internal/bytealg.MaxLen"], apart := false, laid := [("unicode/utf8.acceptRanges", laid_unicode_utf8_acceptRanges), ("loop.example/g00253/impl.byteKinds", laid_loop_example_g00253_impl_byteKinds), ("unicode/utf8.first", laid_unicode_utf8_first)], narrowed := true }
def FnLinesUptoSaid : Prop := fnLinesUptoRow.holds Tryd.pinned (OpenSpec.upto fnLinesSpec)

/-- 'laws.FnExactNewMeeting', WHERE WHAT IT READS IS OF BULK AT MOST 1048576: true; the input reads as it did. -/
def fnExactNewMeetingUptoRow : OpenClaim := { program := "ytkjioadmebkaoaadoor", sum := "656dbc9bfd66e2a6dce7aee4cb3457dbb7d9ea0f3d259e5537d6d7a4a9716d80", func := "loop.example/g00253/laws.FnExactNewMeeting", spec := "fnExactNewMeeting", named := ["loop.example/g00253/impl.byteKinds"], apart := false, laid := [("loop.example/g00253/impl.byteKinds", laid_loop_example_g00253_impl_byteKinds)], narrowed := true }
def FnExactNewMeetingUptoSaid : Prop := fnExactNewMeetingUptoRow.holds Tryd.pinned (OpenSpec.upto fnExactNewMeetingSpec)

/-- 'laws.FnExactGoodMeeting', WHERE WHAT IT READS IS OF BULK AT MOST 1048576: true; the input reads as it did. -/
def fnExactGoodMeetingUptoRow : OpenClaim := { program := "ytkjioadmebkaoaadoor", sum := "656dbc9bfd66e2a6dce7aee4cb3457dbb7d9ea0f3d259e5537d6d7a4a9716d80", func := "loop.example/g00253/laws.FnExactGoodMeeting", spec := "fnExactGoodMeeting", unfollowed := true, recurses := true, named := ["loop.example/g00253/impl.byteKinds"], apart := false, laid := [("loop.example/g00253/impl.byteKinds", laid_loop_example_g00253_impl_byteKinds)], narrowed := true }
def FnExactGoodMeetingUptoSaid : Prop := fnExactGoodMeetingUptoRow.holds Tryd.pinned (OpenSpec.upto fnExactGoodMeetingSpec)

end Rows
end Go.Proofs.YtkjioadmebkaoaaDoor
