/-
  NARROWER THAN 'FOR EVERY INPUT', by the rows' own cells (each row's printed sentence says how): BlakeSums: laid · BlakeWords: laid · BlakeSizes: laid · BlakeHalves: laid.
  DERIVED. THE GIVEN ROWS OF THIS SEAT. 4 by the template 'for every input the law returns true; each argument reads behind the call as it read before'; 0 by the template 'total and deterministic' (their statements: YtgodccgbhpannaaDoorTotals.lean).
  GIVEN WITH THE SEED: the statements are not yours to turn. If you find one false, say at which input.
  Laid BY PROGRAM, IN A SANDBOX (cutbox-rows.mjs): the forced cells as the released guide's own fill.sh prints them over the translation 6f91348185a38bac… (all of the seat's roots in one cut). By AI agents, Wed Nov 11 2026. No macro, syntax, notation, axiom, sorry.
-/
import Derived.Test.YtgodccgbhpannaaDoorChecked
import GoSem.Claim
import GoSem.ClaimJoined
import GoSem.ClaimMapViews
import Derived.JoinedTies
import Derived.KernelRfl
namespace Go.Proofs.YtgodccgbhpannaaDoor
/- THE CELL 'sum', in the pinned program and in every row, IS THE sha256 OF THE DUMP (.gsa) THAT YtgodccgbhpannaaDoorProg.lean LOADS. Nothing in Lean hashes anything: it is a label: what it is worth is what the hold of that sum in a sandbox is worth. -/
noncomputable def Tryd.pinned : Pinned := { name := "ytgodccgbhpannaadoor", sum := "6f91348185a38bac59c773399bc5338f2522828fa19cf3004161b2e0f2315f34", checked := Tryd.checked }
namespace Rows
def none {H : Type} : Left H := { results := [], args := [] }

/- WHAT THE LISTED PACKAGE-LEVEL VARIABLES READ AS WHEN THE CALL BEGINS. Each datum BY PROGRAM (the guide's laid-datum.mjs) off the statement by which the dump's own 'gosem.cut.vars' lays the variable. In a bare row this is a premise. The card (YtgodccgbhpannaaDoorCards.lean) ties it to the program's text. -/
def laid_trestle_blake_initial {H : Type} : DataW H := .agg [.lit (.int .u32 1779033703), .lit (.int .u32 3144134277), .lit (.int .u32 1013904242), .lit (.int .u32 2773480762), .lit (.int .u32 1359893119), .lit (.int .u32 2600822924), .lit (.int .u32 528734635), .lit (.int .u32 1541459225)]
def laid_trestle_blake_orders {H : Type} : DataW H := .agg [.agg [.lit (.int .u8 0), .lit (.int .u8 1), .lit (.int .u8 2), .lit (.int .u8 3), .lit (.int .u8 4), .lit (.int .u8 5), .lit (.int .u8 6), .lit (.int .u8 7), .lit (.int .u8 8), .lit (.int .u8 9), .lit (.int .u8 10), .lit (.int .u8 11), .lit (.int .u8 12), .lit (.int .u8 13), .lit (.int .u8 14), .lit (.int .u8 15)], .agg [.lit (.int .u8 14), .lit (.int .u8 10), .lit (.int .u8 4), .lit (.int .u8 8), .lit (.int .u8 9), .lit (.int .u8 15), .lit (.int .u8 13), .lit (.int .u8 6), .lit (.int .u8 1), .lit (.int .u8 12), .lit (.int .u8 0), .lit (.int .u8 2), .lit (.int .u8 11), .lit (.int .u8 7), .lit (.int .u8 5), .lit (.int .u8 3)], .agg [.lit (.int .u8 11), .lit (.int .u8 8), .lit (.int .u8 12), .lit (.int .u8 0), .lit (.int .u8 5), .lit (.int .u8 2), .lit (.int .u8 15), .lit (.int .u8 13), .lit (.int .u8 10), .lit (.int .u8 14), .lit (.int .u8 3), .lit (.int .u8 6), .lit (.int .u8 7), .lit (.int .u8 1), .lit (.int .u8 9), .lit (.int .u8 4)], .agg [.lit (.int .u8 7), .lit (.int .u8 9), .lit (.int .u8 3), .lit (.int .u8 1), .lit (.int .u8 13), .lit (.int .u8 12), .lit (.int .u8 11), .lit (.int .u8 14), .lit (.int .u8 2), .lit (.int .u8 6), .lit (.int .u8 5), .lit (.int .u8 10), .lit (.int .u8 4), .lit (.int .u8 0), .lit (.int .u8 15), .lit (.int .u8 8)], .agg [.lit (.int .u8 9), .lit (.int .u8 0), .lit (.int .u8 5), .lit (.int .u8 7), .lit (.int .u8 2), .lit (.int .u8 4), .lit (.int .u8 10), .lit (.int .u8 15), .lit (.int .u8 14), .lit (.int .u8 1), .lit (.int .u8 11), .lit (.int .u8 12), .lit (.int .u8 6), .lit (.int .u8 8), .lit (.int .u8 3), .lit (.int .u8 13)], .agg [.lit (.int .u8 2), .lit (.int .u8 12), .lit (.int .u8 6), .lit (.int .u8 10), .lit (.int .u8 0), .lit (.int .u8 11), .lit (.int .u8 8), .lit (.int .u8 3), .lit (.int .u8 4), .lit (.int .u8 13), .lit (.int .u8 7), .lit (.int .u8 5), .lit (.int .u8 15), .lit (.int .u8 14), .lit (.int .u8 1), .lit (.int .u8 9)], .agg [.lit (.int .u8 12), .lit (.int .u8 5), .lit (.int .u8 1), .lit (.int .u8 15), .lit (.int .u8 14), .lit (.int .u8 13), .lit (.int .u8 4), .lit (.int .u8 10), .lit (.int .u8 0), .lit (.int .u8 7), .lit (.int .u8 6), .lit (.int .u8 3), .lit (.int .u8 9), .lit (.int .u8 2), .lit (.int .u8 8), .lit (.int .u8 11)], .agg [.lit (.int .u8 13), .lit (.int .u8 11), .lit (.int .u8 7), .lit (.int .u8 14), .lit (.int .u8 12), .lit (.int .u8 1), .lit (.int .u8 3), .lit (.int .u8 9), .lit (.int .u8 5), .lit (.int .u8 0), .lit (.int .u8 15), .lit (.int .u8 4), .lit (.int .u8 8), .lit (.int .u8 6), .lit (.int .u8 2), .lit (.int .u8 10)], .agg [.lit (.int .u8 6), .lit (.int .u8 15), .lit (.int .u8 14), .lit (.int .u8 9), .lit (.int .u8 11), .lit (.int .u8 3), .lit (.int .u8 0), .lit (.int .u8 8), .lit (.int .u8 12), .lit (.int .u8 2), .lit (.int .u8 13), .lit (.int .u8 7), .lit (.int .u8 1), .lit (.int .u8 4), .lit (.int .u8 10), .lit (.int .u8 5)], .agg [.lit (.int .u8 10), .lit (.int .u8 2), .lit (.int .u8 8), .lit (.int .u8 4), .lit (.int .u8 7), .lit (.int .u8 6), .lit (.int .u8 1), .lit (.int .u8 5), .lit (.int .u8 15), .lit (.int .u8 11), .lit (.int .u8 9), .lit (.int .u8 14), .lit (.int .u8 3), .lit (.int .u8 12), .lit (.int .u8 13), .lit (.int .u8 0)]]

/-- 'trestlelaw02.BlakeSums': WHATEVER THE INPUT: true; the input reads as it did. -/
def blakeSumsSpec : ChangeSpec := { name := "blakeSums", fn := fun _ => fun
  | [d] => { results := [.lit (.bool true)], args := [d] }
  | _ => none }
def blakeSumsRow : OpenClaim := { program := "ytgodccgbhpannaadoor", sum := "6f91348185a38bac59c773399bc5338f2522828fa19cf3004161b2e0f2315f34", func := "trestle/trestlelaw02.BlakeSums", spec := "blakeSums", named := ["trestle/blake.initial", "trestle/blake.orders"], apart := false, laid := [("trestle/blake.initial", laid_trestle_blake_initial), ("trestle/blake.orders", laid_trestle_blake_orders)] }
def BlakeSumsSaid : Prop := blakeSumsRow.holds Tryd.pinned (OpenSpec.ofChange blakeSumsSpec)

/-- ITS FALSE NEIGHBOUR: 'it returns false'. Refute it at one input. -/
def blakeSumsWrong : ChangeSpec := { name := "blakeSums", fn := fun _ => fun
  | [d] => { results := [.lit (.bool false)], args := [d] }
  | _ => none }
def BlakeSumsWrongFalsely : Prop := blakeSumsRow.holds Tryd.pinned (OpenSpec.ofChange blakeSumsWrong)

/-- 'trestlelaw02.BlakeWords': WHATEVER THE INPUT: true; the input reads as it did. -/
def blakeWordsSpec : ChangeSpec := { name := "blakeWords", fn := fun _ => fun
  | [d] => { results := [.lit (.bool true)], args := [d] }
  | _ => none }
def blakeWordsRow : OpenClaim := { program := "ytgodccgbhpannaadoor", sum := "6f91348185a38bac59c773399bc5338f2522828fa19cf3004161b2e0f2315f34", func := "trestle/trestlelaw02.BlakeWords", spec := "blakeWords", named := ["trestle/blake.initial", "trestle/blake.orders"], apart := false, laid := [("trestle/blake.initial", laid_trestle_blake_initial), ("trestle/blake.orders", laid_trestle_blake_orders)] }
def BlakeWordsSaid : Prop := blakeWordsRow.holds Tryd.pinned (OpenSpec.ofChange blakeWordsSpec)

/-- ITS FALSE NEIGHBOUR: 'it returns false'. Refute it at one input. -/
def blakeWordsWrong : ChangeSpec := { name := "blakeWords", fn := fun _ => fun
  | [d] => { results := [.lit (.bool false)], args := [d] }
  | _ => none }
def BlakeWordsWrongFalsely : Prop := blakeWordsRow.holds Tryd.pinned (OpenSpec.ofChange blakeWordsWrong)

/-- 'trestlelaw02.BlakeSizes': WHATEVER THE INPUT: true; the input reads as it did. -/
def blakeSizesSpec : ChangeSpec := { name := "blakeSizes", fn := fun _ => fun
  | [d1, d2] => { results := [.lit (.bool true)], args := [d1, d2] }
  | _ => none }
def blakeSizesRow : OpenClaim := { program := "ytgodccgbhpannaadoor", sum := "6f91348185a38bac59c773399bc5338f2522828fa19cf3004161b2e0f2315f34", func := "trestle/trestlelaw02.BlakeSizes", spec := "blakeSizes", named := ["trestle/blake.initial", "trestle/blake.orders"], apart := false, laid := [("trestle/blake.initial", laid_trestle_blake_initial), ("trestle/blake.orders", laid_trestle_blake_orders)] }
def BlakeSizesSaid : Prop := blakeSizesRow.holds Tryd.pinned (OpenSpec.ofChange blakeSizesSpec)

/-- ITS FALSE NEIGHBOUR: 'it returns false'. Refute it at one input. -/
def blakeSizesWrong : ChangeSpec := { name := "blakeSizes", fn := fun _ => fun
  | [d1, d2] => { results := [.lit (.bool false)], args := [d1, d2] }
  | _ => none }
def BlakeSizesWrongFalsely : Prop := blakeSizesRow.holds Tryd.pinned (OpenSpec.ofChange blakeSizesWrong)

/-- 'trestlelaw02.BlakeHalves': WHATEVER THE INPUT: true; the input reads as it did. -/
def blakeHalvesSpec : ChangeSpec := { name := "blakeHalves", fn := fun _ => fun
  | [d] => { results := [.lit (.bool true)], args := [d] }
  | _ => none }
def blakeHalvesRow : OpenClaim := { program := "ytgodccgbhpannaadoor", sum := "6f91348185a38bac59c773399bc5338f2522828fa19cf3004161b2e0f2315f34", func := "trestle/trestlelaw02.BlakeHalves", spec := "blakeHalves", named := ["trestle/blake.initial", "trestle/blake.orders"], apart := false, laid := [("trestle/blake.initial", laid_trestle_blake_initial), ("trestle/blake.orders", laid_trestle_blake_orders)] }
def BlakeHalvesSaid : Prop := blakeHalvesRow.holds Tryd.pinned (OpenSpec.ofChange blakeHalvesSpec)

/-- ITS FALSE NEIGHBOUR: 'it returns false'. Refute it at one input. -/
def blakeHalvesWrong : ChangeSpec := { name := "blakeHalves", fn := fun _ => fun
  | [d] => { results := [.lit (.bool false)], args := [d] }
  | _ => none }
def BlakeHalvesWrongFalsely : Prop := blakeHalvesRow.holds Tryd.pinned (OpenSpec.ofChange blakeHalvesWrong)

/- THE SECOND FORM. 'bulk': how many values and letters a reading holds, each counted each time it is reached (what is shared counts as often as it is met; a slice's spare places count too). A statement '..UptoSaid' is the law's where the arguments, and the package variables that the reading takes, are together of bulk at most 1048576: NARROWER than '..Said'. Prove '..Said' where nothing that the law and all that it calls make is longer than what came in: it says more and counts as full. Else prove '..UptoSaid'. A law counts once. -/
mutual
def uptoBulk {H : Type} : DataW H → Nat
  | .lit (.string bytes) => bytes.length + 1
  | .lit _ => 1
  | .nil => 1
  | .ptr d => uptoBulk d + 1
  | .slice elems spare => uptoBulkAll elems + uptoBulkAll spare + 1
  | .agg parts => uptoBulkAll parts + 1
  | .iface _ d => uptoBulk d + 1
  | .map entries => uptoBulkEntries entries + 1
  | .held _ => 1
def uptoBulkAll {H : Type} : List (DataW H) → Nat
  | [] => 0
  | d :: r => uptoBulk d + uptoBulkAll r
def uptoBulkEntries {H : Type} : List (Lit × DataW H) → Nat
  | [] => 0
  | x :: r => uptoBulkEntry x + uptoBulkEntries r
def uptoBulkEntry {H : Type} : Lit × DataW H → Nat
  | (.string bytes, d) => bytes.length + uptoBulk d + 1
  | (_, d) => uptoBulk d + 1
 end
def uptoSmall : (H : Type) → List (DataW H) → Bool := fun _ ds => decide (uptoBulkAll ds ≤ 1048576)
def OpenSpec.upto (s : _root_.Go.ChangeSpec) : _root_.Go.OpenSpec := { _root_.Go.OpenSpec.ofChange s with cond := some uptoSmall }

/-- 'trestlelaw02.BlakeSums', WHERE WHAT IT READS IS OF BULK AT MOST 1048576: true; the input reads as it did. -/
def blakeSumsUptoRow : OpenClaim := { program := "ytgodccgbhpannaadoor", sum := "6f91348185a38bac59c773399bc5338f2522828fa19cf3004161b2e0f2315f34", func := "trestle/trestlelaw02.BlakeSums", spec := "blakeSums", named := ["trestle/blake.initial", "trestle/blake.orders"], apart := false, laid := [("trestle/blake.initial", laid_trestle_blake_initial), ("trestle/blake.orders", laid_trestle_blake_orders)], narrowed := true }
def BlakeSumsUptoSaid : Prop := blakeSumsUptoRow.holds Tryd.pinned (OpenSpec.upto blakeSumsSpec)

/-- 'trestlelaw02.BlakeWords', WHERE WHAT IT READS IS OF BULK AT MOST 1048576: true; the input reads as it did. -/
def blakeWordsUptoRow : OpenClaim := { program := "ytgodccgbhpannaadoor", sum := "6f91348185a38bac59c773399bc5338f2522828fa19cf3004161b2e0f2315f34", func := "trestle/trestlelaw02.BlakeWords", spec := "blakeWords", named := ["trestle/blake.initial", "trestle/blake.orders"], apart := false, laid := [("trestle/blake.initial", laid_trestle_blake_initial), ("trestle/blake.orders", laid_trestle_blake_orders)], narrowed := true }
def BlakeWordsUptoSaid : Prop := blakeWordsUptoRow.holds Tryd.pinned (OpenSpec.upto blakeWordsSpec)

/-- 'trestlelaw02.BlakeSizes', WHERE WHAT IT READS IS OF BULK AT MOST 1048576: true; the input reads as it did. -/
def blakeSizesUptoRow : OpenClaim := { program := "ytgodccgbhpannaadoor", sum := "6f91348185a38bac59c773399bc5338f2522828fa19cf3004161b2e0f2315f34", func := "trestle/trestlelaw02.BlakeSizes", spec := "blakeSizes", named := ["trestle/blake.initial", "trestle/blake.orders"], apart := false, laid := [("trestle/blake.initial", laid_trestle_blake_initial), ("trestle/blake.orders", laid_trestle_blake_orders)], narrowed := true }
def BlakeSizesUptoSaid : Prop := blakeSizesUptoRow.holds Tryd.pinned (OpenSpec.upto blakeSizesSpec)

/-- 'trestlelaw02.BlakeHalves', WHERE WHAT IT READS IS OF BULK AT MOST 1048576: true; the input reads as it did. -/
def blakeHalvesUptoRow : OpenClaim := { program := "ytgodccgbhpannaadoor", sum := "6f91348185a38bac59c773399bc5338f2522828fa19cf3004161b2e0f2315f34", func := "trestle/trestlelaw02.BlakeHalves", spec := "blakeHalves", named := ["trestle/blake.initial", "trestle/blake.orders"], apart := false, laid := [("trestle/blake.initial", laid_trestle_blake_initial), ("trestle/blake.orders", laid_trestle_blake_orders)], narrowed := true }
def BlakeHalvesUptoSaid : Prop := blakeHalvesUptoRow.holds Tryd.pinned (OpenSpec.upto blakeHalvesSpec)

end Rows
end Go.Proofs.YtgodccgbhpannaaDoor
