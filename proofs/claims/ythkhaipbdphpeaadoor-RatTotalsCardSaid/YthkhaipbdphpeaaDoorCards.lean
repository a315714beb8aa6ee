/-
  DERIVED. GIVEN WITH THE SEED: THE CARDS: each row of YthkhaipbdphpeaaDoorRows.lean that lists a variable, with what it lists TIED to the program's text (the seventh form; the later family's looks); each row that meets fmt, with fmt's text TOLD by the authors' own Lean function (tested against real Go, not proved from fmt's source: count such statements apart). THE CARD IS WHAT COUNTS. Prove the row's statement (the work); the ties are given (YthkhaipbdphpeaaDoorTie.lean); close each card by the builder's one call (the guide's Derived/Test/ToyasCard.lean, 'card_holds'). Laid BY PROGRAM, IN A SANDBOX (cutbox-door.mjs). By AI agents, Wed Nov 11 2026. No macro, syntax, notation, axiom, sorry.
-/
import Derived.Test.YthkhaipbdphpeaaDoorRows
import GoSem.ClaimSeven
namespace Go.Proofs.YthkhaipbdphpeaaDoor
namespace Rows

/-- THE TIED CARD OF 'papermilllaw03.RatValids'. -/
def ratValidsCard : Claim7 := { stood := { row := ratValidsRow, standIns := [], harness := (true, "c9a2bc20cc3b19955fc0491784cc684021d255ead1d7161a3694385474f92c48"), looks := false }, kinds := [], alts := [], laidByText := true, laidKinds := [.data, .data, .data], laidTests := true, laidLooks := .later }
def RatValidsCardSaid : Prop := Claim7.holds Tryd.pinned (.plain (OpenSpec.ofChange ratValidsSpec)) ratValidsCard

/-- THE TIED CARD OF 'papermilllaw03.RatMakes'. -/
def ratMakesCard : Claim7 := { stood := { row := ratMakesRow, standIns := [], harness := (true, "c9a2bc20cc3b19955fc0491784cc684021d255ead1d7161a3694385474f92c48"), looks := false }, kinds := [], alts := [], laidByText := true, laidKinds := [.data, .data, .data], laidTests := true, laidLooks := .later }
def RatMakesCardSaid : Prop := Claim7.holds Tryd.pinned (.plain (OpenSpec.ofChange ratMakesSpec)) ratMakesCard

/-- THE TIED CARD OF 'papermilllaw03.RatSums'. -/
def ratSumsCard : Claim7 := { stood := { row := ratSumsRow, standIns := [], harness := (true, "c9a2bc20cc3b19955fc0491784cc684021d255ead1d7161a3694385474f92c48"), looks := false }, kinds := [], alts := [], laidByText := true, laidKinds := [.data, .data, .data], laidTests := true, laidLooks := .later }
def RatSumsCardSaid : Prop := Claim7.holds Tryd.pinned (.plain (OpenSpec.ofChange ratSumsSpec)) ratSumsCard

/-- THE TIED CARD OF 'papermilllaw03.RatProducts'. -/
def ratProductsCard : Claim7 := { stood := { row := ratProductsRow, standIns := [], harness := (true, "c9a2bc20cc3b19955fc0491784cc684021d255ead1d7161a3694385474f92c48"), looks := false }, kinds := [], alts := [], laidByText := true, laidKinds := [.data, .data, .data], laidTests := true, laidLooks := .later }
def RatProductsCardSaid : Prop := Claim7.holds Tryd.pinned (.plain (OpenSpec.ofChange ratProductsSpec)) ratProductsCard

/-- THE TIED CARD OF 'papermilllaw03.RatTotals'. -/
def ratTotalsCard : Claim7 := { stood := { row := ratTotalsRow, standIns := [], harness := (true, "c9a2bc20cc3b19955fc0491784cc684021d255ead1d7161a3694385474f92c48"), looks := false }, kinds := [], alts := [], laidByText := true, laidKinds := [.data, .data, .data], laidTests := true, laidLooks := .later }
def RatTotalsCardSaid : Prop := Claim7.holds Tryd.pinned (.plain (OpenSpec.ofChange ratTotalsSpec)) ratTotalsCard

/-- THE TIED CARD OF 'papermilllaw03.RatField'. -/
def ratFieldCard : Claim7 := { stood := { row := ratFieldRow, standIns := [], harness := (true, "c9a2bc20cc3b19955fc0491784cc684021d255ead1d7161a3694385474f92c48"), looks := false }, kinds := [], alts := [], laidByText := true, laidKinds := [.data, .data, .data], laidTests := true, laidLooks := .later }
def RatFieldCardSaid : Prop := Claim7.holds Tryd.pinned (.plain (OpenSpec.ofChange ratFieldSpec)) ratFieldCard

/-- THE TIED CARD OF 'papermilllaw03.RatOrder'. -/
def ratOrderCard : Claim7 := { stood := { row := ratOrderRow, standIns := [], harness := (true, "c9a2bc20cc3b19955fc0491784cc684021d255ead1d7161a3694385474f92c48"), looks := false }, kinds := [], alts := [], laidByText := true, laidKinds := [.data, .data, .data], laidTests := true, laidLooks := .later }
def RatOrderCardSaid : Prop := Claim7.holds Tryd.pinned (.plain (OpenSpec.ofChange ratOrderSpec)) ratOrderCard

/-- THE TIED CARD OF 'papermilllaw03.RatForms'. -/
def ratFormsCard : Claim7 := { stood := { row := ratFormsRow, standIns := [], harness := (true, "c9a2bc20cc3b19955fc0491784cc684021d255ead1d7161a3694385474f92c48"), looks := false }, kinds := [], alts := [], laidByText := true, laidKinds := [.data, .data, .data], laidTests := true, laidLooks := .later }
def RatFormsCardSaid : Prop := Claim7.holds Tryd.pinned (.plain (OpenSpec.ofChange ratFormsSpec)) ratFormsCard

/-- THE SECOND FORM's CARD OF 'papermilllaw03.RatValids'. -/
def ratValidsUptoCard : Claim7 := { stood := { row := ratValidsUptoRow, standIns := [], harness := (true, "c9a2bc20cc3b19955fc0491784cc684021d255ead1d7161a3694385474f92c48"), looks := false }, kinds := [], alts := [], laidByText := true, laidKinds := [.data, .data, .data], laidTests := true, laidLooks := .later }
def RatValidsUptoCardSaid : Prop := Claim7.holds Tryd.pinned (.plain (OpenSpec.upto ratValidsSpec)) ratValidsUptoCard

/-- THE SECOND FORM's CARD OF 'papermilllaw03.RatMakes'. -/
def ratMakesUptoCard : Claim7 := { stood := { row := ratMakesUptoRow, standIns := [], harness := (true, "c9a2bc20cc3b19955fc0491784cc684021d255ead1d7161a3694385474f92c48"), looks := false }, kinds := [], alts := [], laidByText := true, laidKinds := [.data, .data, .data], laidTests := true, laidLooks := .later }
def RatMakesUptoCardSaid : Prop := Claim7.holds Tryd.pinned (.plain (OpenSpec.upto ratMakesSpec)) ratMakesUptoCard

/-- THE SECOND FORM's CARD OF 'papermilllaw03.RatSums'. -/
def ratSumsUptoCard : Claim7 := { stood := { row := ratSumsUptoRow, standIns := [], harness := (true, "c9a2bc20cc3b19955fc0491784cc684021d255ead1d7161a3694385474f92c48"), looks := false }, kinds := [], alts := [], laidByText := true, laidKinds := [.data, .data, .data], laidTests := true, laidLooks := .later }
def RatSumsUptoCardSaid : Prop := Claim7.holds Tryd.pinned (.plain (OpenSpec.upto ratSumsSpec)) ratSumsUptoCard

/-- THE SECOND FORM's CARD OF 'papermilllaw03.RatProducts'. -/
def ratProductsUptoCard : Claim7 := { stood := { row := ratProductsUptoRow, standIns := [], harness := (true, "c9a2bc20cc3b19955fc0491784cc684021d255ead1d7161a3694385474f92c48"), looks := false }, kinds := [], alts := [], laidByText := true, laidKinds := [.data, .data, .data], laidTests := true, laidLooks := .later }
def RatProductsUptoCardSaid : Prop := Claim7.holds Tryd.pinned (.plain (OpenSpec.upto ratProductsSpec)) ratProductsUptoCard

/-- THE SECOND FORM's CARD OF 'papermilllaw03.RatTotals'. -/
def ratTotalsUptoCard : Claim7 := { stood := { row := ratTotalsUptoRow, standIns := [], harness := (true, "c9a2bc20cc3b19955fc0491784cc684021d255ead1d7161a3694385474f92c48"), looks := false }, kinds := [], alts := [], laidByText := true, laidKinds := [.data, .data, .data], laidTests := true, laidLooks := .later }
def RatTotalsUptoCardSaid : Prop := Claim7.holds Tryd.pinned (.plain (OpenSpec.upto ratTotalsSpec)) ratTotalsUptoCard

/-- THE SECOND FORM's CARD OF 'papermilllaw03.RatField'. -/
def ratFieldUptoCard : Claim7 := { stood := { row := ratFieldUptoRow, standIns := [], harness := (true, "c9a2bc20cc3b19955fc0491784cc684021d255ead1d7161a3694385474f92c48"), looks := false }, kinds := [], alts := [], laidByText := true, laidKinds := [.data, .data, .data], laidTests := true, laidLooks := .later }
def RatFieldUptoCardSaid : Prop := Claim7.holds Tryd.pinned (.plain (OpenSpec.upto ratFieldSpec)) ratFieldUptoCard

/-- THE SECOND FORM's CARD OF 'papermilllaw03.RatOrder'. -/
def ratOrderUptoCard : Claim7 := { stood := { row := ratOrderUptoRow, standIns := [], harness := (true, "c9a2bc20cc3b19955fc0491784cc684021d255ead1d7161a3694385474f92c48"), looks := false }, kinds := [], alts := [], laidByText := true, laidKinds := [.data, .data, .data], laidTests := true, laidLooks := .later }
def RatOrderUptoCardSaid : Prop := Claim7.holds Tryd.pinned (.plain (OpenSpec.upto ratOrderSpec)) ratOrderUptoCard

/-- THE SECOND FORM's CARD OF 'papermilllaw03.RatForms'. -/
def ratFormsUptoCard : Claim7 := { stood := { row := ratFormsUptoRow, standIns := [], harness := (true, "c9a2bc20cc3b19955fc0491784cc684021d255ead1d7161a3694385474f92c48"), looks := false }, kinds := [], alts := [], laidByText := true, laidKinds := [.data, .data, .data], laidTests := true, laidLooks := .later }
def RatFormsUptoCardSaid : Prop := Claim7.holds Tryd.pinned (.plain (OpenSpec.upto ratFormsSpec)) ratFormsUptoCard
end Rows
end Go.Proofs.YthkhaipbdphpeaaDoor
