/-
  DERIVED. GIVEN WITH THE SEED: THE CARDS: each row of YtecclhmjmceheaaGreatDoorRows.lean that lists a variable, with what it lists TIED to the program's text (the seventh form; the later family's looks); each row that meets fmt, with fmt's text TOLD by the authors' own Lean function (tested against real Go, not proved from fmt's source: count such statements apart). THE CARD IS WHAT COUNTS. Prove the row's statement (the work); the ties are given (YtecclhmjmceheaaGreatDoorTie.lean); close each card by the builder's one call (the guide's Derived/Test/ToyasCard.lean, 'card_holds'). Laid BY PROGRAM, IN A SANDBOX (cutbox-door.mjs). By AI agents, Wed Nov 11 2026. No macro, syntax, notation, axiom, sorry.
-/
import Derived.Test.YtecclhmjmceheaaGreatDoorRows
import GoSem.ClaimSeven
namespace Go.Proofs.YtecclhmjmceheaaGreatDoor
namespace Rows

/-- THE TIED CARD OF 'burinlaw08.LexQuotes'. -/
def lexQuotesCard : Claim7 := { stood := { row := lexQuotesRow, standIns := [], harness := (true, "1b22f8be2666bf10e9321906d081fc968d3942d5b92e61aa5bc14d14db78e646"), looks := true }, kinds := [], alts := [], laidByText := true, laidKinds := [.data, .data, .data, .data, .sentinel, .sentinel, .listed, .data, .pinned], laidTests := true, laidLooks := .later }
def LexQuotesCardSaid : Prop := Claim7.holds Tryz.pinned (.plain (OpenSpec.ofChange lexQuotesSpec)) lexQuotesCard

/-- THE TIED CARD OF 'burinlaw08.LexJoins'. -/
def lexJoinsCard : Claim7 := { stood := { row := lexJoinsRow, standIns := [], harness := (true, "1b22f8be2666bf10e9321906d081fc968d3942d5b92e61aa5bc14d14db78e646"), looks := true }, kinds := [], alts := [], laidByText := true, laidKinds := [.data, .data, .data, .data, .sentinel, .sentinel, .listed, .data, .pinned], laidTests := true, laidLooks := .later }
def LexJoinsCardSaid : Prop := Claim7.holds Tryz.pinned (.plain (OpenSpec.ofChange lexJoinsSpec)) lexJoinsCard

/-- THE TIED CARD OF 'burinlaw08.LexBraces'. -/
def lexBracesCard : Claim7 := { stood := { row := lexBracesRow, standIns := [], harness := (true, "1b22f8be2666bf10e9321906d081fc968d3942d5b92e61aa5bc14d14db78e646"), looks := true }, kinds := [], alts := [], laidByText := true, laidKinds := [.data, .data, .data, .data, .sentinel, .sentinel, .listed, .data, .pinned], laidTests := true, laidLooks := .later }
def LexBracesCardSaid : Prop := Claim7.holds Tryz.pinned (.plain (OpenSpec.ofChange lexBracesSpec)) lexBracesCard

/-- THE TIED CARD OF 'burinlaw09.ParseReads'. -/
def parseReadsCard : Claim7 := { stood := { row := parseReadsRow, standIns := [], harness := (true, "1b22f8be2666bf10e9321906d081fc968d3942d5b92e61aa5bc14d14db78e646"), looks := true }, kinds := [], alts := [], laidByText := true, laidKinds := [.data, .data, .data, .data, .sentinel, .sentinel, .listed, .data, .pinned], laidTests := true, laidLooks := .later }
def ParseReadsCardSaid : Prop := Claim7.holds Tryz.pinned (.plain (OpenSpec.ofChange parseReadsSpec)) parseReadsCard

/-- THE TIED CARD OF 'burinlaw09.ParseRight'. -/
def parseRightCard : Claim7 := { stood := { row := parseRightRow, standIns := [], harness := (true, "1b22f8be2666bf10e9321906d081fc968d3942d5b92e61aa5bc14d14db78e646"), looks := true }, kinds := [], alts := [], laidByText := true, laidKinds := [.data, .data, .data, .data, .sentinel, .sentinel, .listed, .data, .pinned], laidTests := true, laidLooks := .later }
def ParseRightCardSaid : Prop := Claim7.holds Tryz.pinned (.plain (OpenSpec.ofChange parseRightSpec)) parseRightCard

/-- THE TIED CARD OF 'burinlaw09.ParsePart'. -/
def parsePartCard : Claim7 := { stood := { row := parsePartRow, standIns := [], harness := (true, "1b22f8be2666bf10e9321906d081fc968d3942d5b92e61aa5bc14d14db78e646"), looks := true }, kinds := [], alts := [], laidByText := true, laidKinds := [.data, .data, .data, .data, .sentinel, .sentinel, .listed, .data, .pinned], laidTests := true, laidLooks := .later }
def ParsePartCardSaid : Prop := Claim7.holds Tryz.pinned (.plain (OpenSpec.ofChange parsePartSpec)) parsePartCard

/-- THE TIED CARD OF 'burinlaw09.ParseFlags'. -/
def parseFlagsCard : Claim7 := { stood := { row := parseFlagsRow, standIns := [], harness := (true, "1b22f8be2666bf10e9321906d081fc968d3942d5b92e61aa5bc14d14db78e646"), looks := true }, kinds := [], alts := [], laidByText := true, laidKinds := [.data, .data, .data, .data, .sentinel, .sentinel, .listed, .data, .pinned], laidTests := true, laidLooks := .later }
def ParseFlagsCardSaid : Prop := Claim7.holds Tryz.pinned (.plain (OpenSpec.ofChange parseFlagsSpec)) parseFlagsCard

/-- THE TIED CARD OF 'burinlaw09.ParseDeep'. -/
def parseDeepCard : Claim7 := { stood := { row := parseDeepRow, standIns := [], harness := (true, "1b22f8be2666bf10e9321906d081fc968d3942d5b92e61aa5bc14d14db78e646"), looks := true }, kinds := [], alts := [], laidByText := true, laidKinds := [.data, .data, .data, .data, .sentinel, .sentinel, .listed, .data, .pinned], laidTests := true, laidLooks := .later }
def ParseDeepCardSaid : Prop := Claim7.holds Tryz.pinned (.plain (OpenSpec.ofChange parseDeepSpec)) parseDeepCard

/-- THE SECOND FORM's CARD OF 'burinlaw08.LexQuotes'. -/
def lexQuotesUptoCard : Claim7 := { stood := { row := lexQuotesUptoRow, standIns := [], harness := (true, "1b22f8be2666bf10e9321906d081fc968d3942d5b92e61aa5bc14d14db78e646"), looks := true }, kinds := [], alts := [], laidByText := true, laidKinds := [.data, .data, .data, .data, .sentinel, .sentinel, .listed, .data, .pinned], laidTests := true, laidLooks := .later }
def LexQuotesUptoCardSaid : Prop := Claim7.holds Tryz.pinned (.plain (OpenSpec.upto lexQuotesSpec)) lexQuotesUptoCard

/-- THE SECOND FORM's CARD OF 'burinlaw08.LexJoins'. -/
def lexJoinsUptoCard : Claim7 := { stood := { row := lexJoinsUptoRow, standIns := [], harness := (true, "1b22f8be2666bf10e9321906d081fc968d3942d5b92e61aa5bc14d14db78e646"), looks := true }, kinds := [], alts := [], laidByText := true, laidKinds := [.data, .data, .data, .data, .sentinel, .sentinel, .listed, .data, .pinned], laidTests := true, laidLooks := .later }
def LexJoinsUptoCardSaid : Prop := Claim7.holds Tryz.pinned (.plain (OpenSpec.upto lexJoinsSpec)) lexJoinsUptoCard

/-- THE SECOND FORM's CARD OF 'burinlaw08.LexBraces'. -/
def lexBracesUptoCard : Claim7 := { stood := { row := lexBracesUptoRow, standIns := [], harness := (true, "1b22f8be2666bf10e9321906d081fc968d3942d5b92e61aa5bc14d14db78e646"), looks := true }, kinds := [], alts := [], laidByText := true, laidKinds := [.data, .data, .data, .data, .sentinel, .sentinel, .listed, .data, .pinned], laidTests := true, laidLooks := .later }
def LexBracesUptoCardSaid : Prop := Claim7.holds Tryz.pinned (.plain (OpenSpec.upto lexBracesSpec)) lexBracesUptoCard

/-- THE SECOND FORM's CARD OF 'burinlaw09.ParseReads'. -/
def parseReadsUptoCard : Claim7 := { stood := { row := parseReadsUptoRow, standIns := [], harness := (true, "1b22f8be2666bf10e9321906d081fc968d3942d5b92e61aa5bc14d14db78e646"), looks := true }, kinds := [], alts := [], laidByText := true, laidKinds := [.data, .data, .data, .data, .sentinel, .sentinel, .listed, .data, .pinned], laidTests := true, laidLooks := .later }
def ParseReadsUptoCardSaid : Prop := Claim7.holds Tryz.pinned (.plain (OpenSpec.upto parseReadsSpec)) parseReadsUptoCard

/-- THE SECOND FORM's CARD OF 'burinlaw09.ParseRight'. -/
def parseRightUptoCard : Claim7 := { stood := { row := parseRightUptoRow, standIns := [], harness := (true, "1b22f8be2666bf10e9321906d081fc968d3942d5b92e61aa5bc14d14db78e646"), looks := true }, kinds := [], alts := [], laidByText := true, laidKinds := [.data, .data, .data, .data, .sentinel, .sentinel, .listed, .data, .pinned], laidTests := true, laidLooks := .later }
def ParseRightUptoCardSaid : Prop := Claim7.holds Tryz.pinned (.plain (OpenSpec.upto parseRightSpec)) parseRightUptoCard

/-- THE SECOND FORM's CARD OF 'burinlaw09.ParsePart'. -/
def parsePartUptoCard : Claim7 := { stood := { row := parsePartUptoRow, standIns := [], harness := (true, "1b22f8be2666bf10e9321906d081fc968d3942d5b92e61aa5bc14d14db78e646"), looks := true }, kinds := [], alts := [], laidByText := true, laidKinds := [.data, .data, .data, .data, .sentinel, .sentinel, .listed, .data, .pinned], laidTests := true, laidLooks := .later }
def ParsePartUptoCardSaid : Prop := Claim7.holds Tryz.pinned (.plain (OpenSpec.upto parsePartSpec)) parsePartUptoCard

/-- THE SECOND FORM's CARD OF 'burinlaw09.ParseFlags'. -/
def parseFlagsUptoCard : Claim7 := { stood := { row := parseFlagsUptoRow, standIns := [], harness := (true, "1b22f8be2666bf10e9321906d081fc968d3942d5b92e61aa5bc14d14db78e646"), looks := true }, kinds := [], alts := [], laidByText := true, laidKinds := [.data, .data, .data, .data, .sentinel, .sentinel, .listed, .data, .pinned], laidTests := true, laidLooks := .later }
def ParseFlagsUptoCardSaid : Prop := Claim7.holds Tryz.pinned (.plain (OpenSpec.upto parseFlagsSpec)) parseFlagsUptoCard

/-- THE SECOND FORM's CARD OF 'burinlaw09.ParseDeep'. -/
def parseDeepUptoCard : Claim7 := { stood := { row := parseDeepUptoRow, standIns := [], harness := (true, "1b22f8be2666bf10e9321906d081fc968d3942d5b92e61aa5bc14d14db78e646"), looks := true }, kinds := [], alts := [], laidByText := true, laidKinds := [.data, .data, .data, .data, .sentinel, .sentinel, .listed, .data, .pinned], laidTests := true, laidLooks := .later }
def ParseDeepUptoCardSaid : Prop := Claim7.holds Tryz.pinned (.plain (OpenSpec.upto parseDeepSpec)) parseDeepUptoCard
end Rows
end Go.Proofs.YtecclhmjmceheaaGreatDoor
