/-
  DERIVED. GIVEN WITH THE SEED: THE CARDS: each row of YtgodccgbhpannaaDoorRows.lean that lists a variable, with what it lists TIED to the program's text (the seventh form; the later family's looks); each row that meets fmt, with fmt's text TOLD by the authors' own Lean function (tested against real Go, not proved from fmt's source: count such statements apart). THE CARD IS WHAT COUNTS. Prove the row's statement (the work); the ties are given (YtgodccgbhpannaaDoorTie.lean); close each card by the builder's one call (the guide's Derived/Test/ToyasCard.lean, 'card_holds'). Laid BY PROGRAM, IN A SANDBOX (cutbox-door.mjs). By AI agents, Wed Nov 11 2026. No macro, syntax, notation, axiom, sorry.
-/
import Derived.Test.YtgodccgbhpannaaDoorRows
import GoSem.ClaimSeven
namespace Go.Proofs.YtgodccgbhpannaaDoor
namespace Rows

/-- THE TIED CARD OF 'trestlelaw02.BlakeSums'. -/
def blakeSumsCard : Claim7 := { stood := { row := blakeSumsRow, standIns := [], harness := (true, "56aa71c945d03dff1b5b7c6c683c3f2a162644668685aa18c2280b1475232b19"), looks := false }, kinds := [], alts := [], laidByText := true, laidKinds := [.data, .data], laidTests := true, laidLooks := .later }
def BlakeSumsCardSaid : Prop := Claim7.holds Tryd.pinned (.plain (OpenSpec.ofChange blakeSumsSpec)) blakeSumsCard

/-- THE TIED CARD OF 'trestlelaw02.BlakeWords'. -/
def blakeWordsCard : Claim7 := { stood := { row := blakeWordsRow, standIns := [], harness := (true, "56aa71c945d03dff1b5b7c6c683c3f2a162644668685aa18c2280b1475232b19"), looks := false }, kinds := [], alts := [], laidByText := true, laidKinds := [.data, .data], laidTests := true, laidLooks := .later }
def BlakeWordsCardSaid : Prop := Claim7.holds Tryd.pinned (.plain (OpenSpec.ofChange blakeWordsSpec)) blakeWordsCard

/-- THE TIED CARD OF 'trestlelaw02.BlakeSizes'. -/
def blakeSizesCard : Claim7 := { stood := { row := blakeSizesRow, standIns := [], harness := (true, "56aa71c945d03dff1b5b7c6c683c3f2a162644668685aa18c2280b1475232b19"), looks := false }, kinds := [], alts := [], laidByText := true, laidKinds := [.data, .data], laidTests := true, laidLooks := .later }
def BlakeSizesCardSaid : Prop := Claim7.holds Tryd.pinned (.plain (OpenSpec.ofChange blakeSizesSpec)) blakeSizesCard

/-- THE TIED CARD OF 'trestlelaw02.BlakeHalves'. -/
def blakeHalvesCard : Claim7 := { stood := { row := blakeHalvesRow, standIns := [], harness := (true, "56aa71c945d03dff1b5b7c6c683c3f2a162644668685aa18c2280b1475232b19"), looks := false }, kinds := [], alts := [], laidByText := true, laidKinds := [.data, .data], laidTests := true, laidLooks := .later }
def BlakeHalvesCardSaid : Prop := Claim7.holds Tryd.pinned (.plain (OpenSpec.ofChange blakeHalvesSpec)) blakeHalvesCard

/-- THE SECOND FORM's CARD OF 'trestlelaw02.BlakeSums'. -/
def blakeSumsUptoCard : Claim7 := { stood := { row := blakeSumsUptoRow, standIns := [], harness := (true, "56aa71c945d03dff1b5b7c6c683c3f2a162644668685aa18c2280b1475232b19"), looks := false }, kinds := [], alts := [], laidByText := true, laidKinds := [.data, .data], laidTests := true, laidLooks := .later }
def BlakeSumsUptoCardSaid : Prop := Claim7.holds Tryd.pinned (.plain (OpenSpec.upto blakeSumsSpec)) blakeSumsUptoCard

/-- THE SECOND FORM's CARD OF 'trestlelaw02.BlakeWords'. -/
def blakeWordsUptoCard : Claim7 := { stood := { row := blakeWordsUptoRow, standIns := [], harness := (true, "56aa71c945d03dff1b5b7c6c683c3f2a162644668685aa18c2280b1475232b19"), looks := false }, kinds := [], alts := [], laidByText := true, laidKinds := [.data, .data], laidTests := true, laidLooks := .later }
def BlakeWordsUptoCardSaid : Prop := Claim7.holds Tryd.pinned (.plain (OpenSpec.upto blakeWordsSpec)) blakeWordsUptoCard

/-- THE SECOND FORM's CARD OF 'trestlelaw02.BlakeSizes'. -/
def blakeSizesUptoCard : Claim7 := { stood := { row := blakeSizesUptoRow, standIns := [], harness := (true, "56aa71c945d03dff1b5b7c6c683c3f2a162644668685aa18c2280b1475232b19"), looks := false }, kinds := [], alts := [], laidByText := true, laidKinds := [.data, .data], laidTests := true, laidLooks := .later }
def BlakeSizesUptoCardSaid : Prop := Claim7.holds Tryd.pinned (.plain (OpenSpec.upto blakeSizesSpec)) blakeSizesUptoCard

/-- THE SECOND FORM's CARD OF 'trestlelaw02.BlakeHalves'. -/
def blakeHalvesUptoCard : Claim7 := { stood := { row := blakeHalvesUptoRow, standIns := [], harness := (true, "56aa71c945d03dff1b5b7c6c683c3f2a162644668685aa18c2280b1475232b19"), looks := false }, kinds := [], alts := [], laidByText := true, laidKinds := [.data, .data], laidTests := true, laidLooks := .later }
def BlakeHalvesUptoCardSaid : Prop := Claim7.holds Tryd.pinned (.plain (OpenSpec.upto blakeHalvesSpec)) blakeHalvesUptoCard
end Rows
end Go.Proofs.YtgodccgbhpannaaDoor
