/-
  NARROWER THAN 'FOR EVERY INPUT', by the rows' own cells (each row's printed sentence says how): ShaFractions: laid · ShaBetween: laid · ShaSums: laid · ShaParts: laid · ShaLengths: laid.
  DERIVED. THE GIVEN ROWS OF THIS SEAT. 5 by the template 'for every input the law returns true; each argument reads behind the call as it read before'; 0 by the template 'total and deterministic' (their statements: YtjeliomjnalpcaaDoorTotals.lean).
  GIVEN WITH THE SEED: the statements are not yours to turn. If you find one false, say at which input.
  Laid BY PROGRAM, IN A SANDBOX (cutbox-rows.mjs): the forced cells as the released guide's own fill.sh prints them over the translation 3ff26ae1e593c6d2… (all of the seat's roots in one cut). By AI agents, Wed Nov 11 2026. No macro, syntax, notation, axiom, sorry.
-/
import Derived.Test.YtjeliomjnalpcaaDoorChecked
import GoSem.Claim
import GoSem.ClaimJoined
import GoSem.ClaimMapViews
import Derived.JoinedTies
import Derived.KernelRfl
namespace Go.Proofs.YtjeliomjnalpcaaDoor
/- THE CELL 'sum', in the pinned program and in every row, IS THE sha256 OF THE DUMP (.gsa) THAT YtjeliomjnalpcaaDoorProg.lean LOADS. Nothing in Lean hashes anything: it is a label: what it is worth is what the hold of that sum in a sandbox is worth. -/
noncomputable def Tryd.pinned : Pinned := { name := "ytjeliomjnalpcaadoor", sum := "3ff26ae1e593c6d2070900dc6ee91e4dc59f3680803bd6f4b54b1685da21da0c", checked := Tryd.checked }
namespace Rows
def none {H : Type} : Left H := { results := [], args := [] }

/- WHAT THE LISTED PACKAGE-LEVEL VARIABLES READ AS WHEN THE CALL BEGINS. Each datum BY PROGRAM (the guide's laid-datum.mjs) off the statement by which the dump's own 'gosem.cut.vars' lays the variable. In a bare row this is a premise. The card (YtjeliomjnalpcaaDoorCards.lean) ties it to the program's text. -/
def laid_caltrop_sha_begins {H : Type} : DataW H := .agg [.lit (.int .u32 1779033703), .lit (.int .u32 3144134277), .lit (.int .u32 1013904242), .lit (.int .u32 2773480762), .lit (.int .u32 1359893119), .lit (.int .u32 2600822924), .lit (.int .u32 528734635), .lit (.int .u32 1541459225)]
def laid_caltrop_sha_rounds {H : Type} : DataW H := .agg [.lit (.int .u32 1116352408), .lit (.int .u32 1899447441), .lit (.int .u32 3049323471), .lit (.int .u32 3921009573), .lit (.int .u32 961987163), .lit (.int .u32 1508970993), .lit (.int .u32 2453635748), .lit (.int .u32 2870763221), .lit (.int .u32 3624381080), .lit (.int .u32 310598401), .lit (.int .u32 607225278), .lit (.int .u32 1426881987), .lit (.int .u32 1925078388), .lit (.int .u32 2162078206), .lit (.int .u32 2614888103), .lit (.int .u32 3248222580), .lit (.int .u32 3835390401), .lit (.int .u32 4022224774), .lit (.int .u32 264347078), .lit (.int .u32 604807628), .lit (.int .u32 770255983), .lit (.int .u32 1249150122), .lit (.int .u32 1555081692), .lit (.int .u32 1996064986), .lit (.int .u32 2554220882), .lit (.int .u32 2821834349), .lit (.int .u32 2952996808), .lit (.int .u32 3210313671), .lit (.int .u32 3336571891), .lit (.int .u32 3584528711), .lit (.int .u32 113926993), .lit (.int .u32 338241895), .lit (.int .u32 666307205), .lit (.int .u32 773529912), .lit (.int .u32 1294757372), .lit (.int .u32 1396182291), .lit (.int .u32 1695183700), .lit (.int .u32 1986661051), .lit (.int .u32 2177026350), .lit (.int .u32 2456956037), .lit (.int .u32 2730485921), .lit (.int .u32 2820302411), .lit (.int .u32 3259730800), .lit (.int .u32 3345764771), .lit (.int .u32 3516065817), .lit (.int .u32 3600352804), .lit (.int .u32 4094571909), .lit (.int .u32 275423344), .lit (.int .u32 430227734), .lit (.int .u32 506948616), .lit (.int .u32 659060556), .lit (.int .u32 883997877), .lit (.int .u32 958139571), .lit (.int .u32 1322822218), .lit (.int .u32 1537002063), .lit (.int .u32 1747873779), .lit (.int .u32 1955562222), .lit (.int .u32 2024104815), .lit (.int .u32 2227730452), .lit (.int .u32 2361852424), .lit (.int .u32 2428436474), .lit (.int .u32 2756734187), .lit (.int .u32 3204031479), .lit (.int .u32 3329325298)]

/-- 'caltroplaw07.ShaFractions': WHATEVER THE INPUT: true; the input reads as it did. -/
def shaFractionsSpec : ChangeSpec := { name := "shaFractions", fn := fun _ => fun
  | [d1, d2] => { results := [.lit (.bool true)], args := [d1, d2] }
  | _ => none }
def shaFractionsRow : OpenClaim := { program := "ytjeliomjnalpcaadoor", sum := "3ff26ae1e593c6d2070900dc6ee91e4dc59f3680803bd6f4b54b1685da21da0c", func := "caltrop/caltroplaw07.ShaFractions", spec := "shaFractions", inPlace := ["math/bits.Add64", "math/bits.Sub64"], unfollowed := true, recurses := true, named := ["math/bits.divideError", "math/bits.overflowError", "caltrop/sha.begins", "caltrop/sha.rounds"], apart := false, laid := [("caltrop/sha.begins", laid_caltrop_sha_begins), ("caltrop/sha.rounds", laid_caltrop_sha_rounds)] }
def ShaFractionsSaid : Prop := shaFractionsRow.holds Tryd.pinned (OpenSpec.ofChange shaFractionsSpec)

/-- ITS FALSE NEIGHBOUR: 'it returns false'. Refute it at one input. -/
def shaFractionsWrong : ChangeSpec := { name := "shaFractions", fn := fun _ => fun
  | [d1, d2] => { results := [.lit (.bool false)], args := [d1, d2] }
  | _ => none }
def ShaFractionsWrongFalsely : Prop := shaFractionsRow.holds Tryd.pinned (OpenSpec.ofChange shaFractionsWrong)

/-- 'caltroplaw07.ShaBetween': WHATEVER THE INPUT: true; the input reads as it did. -/
def shaBetweenSpec : ChangeSpec := { name := "shaBetween", fn := fun _ => fun
  | [d1, d2] => { results := [.lit (.bool true)], args := [d1, d2] }
  | _ => none }
def shaBetweenRow : OpenClaim := { program := "ytjeliomjnalpcaadoor", sum := "3ff26ae1e593c6d2070900dc6ee91e4dc59f3680803bd6f4b54b1685da21da0c", func := "caltrop/caltroplaw07.ShaBetween", spec := "shaBetween", inPlace := ["math/bits.Add64", "math/bits.Sub64"], unfollowed := true, recurses := true, named := ["math/bits.divideError", "math/bits.overflowError", "caltrop/sha.begins", "caltrop/sha.rounds"], apart := false, laid := [("caltrop/sha.begins", laid_caltrop_sha_begins), ("caltrop/sha.rounds", laid_caltrop_sha_rounds)] }
def ShaBetweenSaid : Prop := shaBetweenRow.holds Tryd.pinned (OpenSpec.ofChange shaBetweenSpec)

/-- ITS FALSE NEIGHBOUR: 'it returns false'. Refute it at one input. -/
def shaBetweenWrong : ChangeSpec := { name := "shaBetween", fn := fun _ => fun
  | [d1, d2] => { results := [.lit (.bool false)], args := [d1, d2] }
  | _ => none }
def ShaBetweenWrongFalsely : Prop := shaBetweenRow.holds Tryd.pinned (OpenSpec.ofChange shaBetweenWrong)

/-- 'caltroplaw07.ShaSums': WHATEVER THE INPUT: true; the input reads as it did. -/
def shaSumsSpec : ChangeSpec := { name := "shaSums", fn := fun _ => fun
  | [d] => { results := [.lit (.bool true)], args := [d] }
  | _ => none }
def shaSumsRow : OpenClaim := { program := "ytjeliomjnalpcaadoor", sum := "3ff26ae1e593c6d2070900dc6ee91e4dc59f3680803bd6f4b54b1685da21da0c", func := "caltrop/caltroplaw07.ShaSums", spec := "shaSums", inPlace := ["math/bits.Add64", "math/bits.Sub64"], unfollowed := true, recurses := true, named := ["caltrop/sha.begins", "caltrop/sha.rounds", "math/bits.divideError", "math/bits.overflowError"], apart := false, laid := [("caltrop/sha.begins", laid_caltrop_sha_begins), ("caltrop/sha.rounds", laid_caltrop_sha_rounds)] }
def ShaSumsSaid : Prop := shaSumsRow.holds Tryd.pinned (OpenSpec.ofChange shaSumsSpec)

/-- ITS FALSE NEIGHBOUR: 'it returns false'. Refute it at one input. -/
def shaSumsWrong : ChangeSpec := { name := "shaSums", fn := fun _ => fun
  | [d] => { results := [.lit (.bool false)], args := [d] }
  | _ => none }
def ShaSumsWrongFalsely : Prop := shaSumsRow.holds Tryd.pinned (OpenSpec.ofChange shaSumsWrong)

/-- 'caltroplaw07.ShaParts': WHATEVER THE INPUT: true; the input reads as it did. -/
def shaPartsSpec : ChangeSpec := { name := "shaParts", fn := fun _ => fun
  | [d1, d2] => { results := [.lit (.bool true)], args := [d1, d2] }
  | _ => none }
def shaPartsRow : OpenClaim := { program := "ytjeliomjnalpcaadoor", sum := "3ff26ae1e593c6d2070900dc6ee91e4dc59f3680803bd6f4b54b1685da21da0c", func := "caltrop/caltroplaw07.ShaParts", spec := "shaParts", inPlace := ["math/bits.Add64", "math/bits.Sub64"], unfollowed := true, recurses := true, named := ["caltrop/sha.begins", "caltrop/sha.rounds", "math/bits.divideError", "math/bits.overflowError"], apart := false, laid := [("caltrop/sha.begins", laid_caltrop_sha_begins), ("caltrop/sha.rounds", laid_caltrop_sha_rounds)] }
def ShaPartsSaid : Prop := shaPartsRow.holds Tryd.pinned (OpenSpec.ofChange shaPartsSpec)

/-- ITS FALSE NEIGHBOUR: 'it returns false'. Refute it at one input. -/
def shaPartsWrong : ChangeSpec := { name := "shaParts", fn := fun _ => fun
  | [d1, d2] => { results := [.lit (.bool false)], args := [d1, d2] }
  | _ => none }
def ShaPartsWrongFalsely : Prop := shaPartsRow.holds Tryd.pinned (OpenSpec.ofChange shaPartsWrong)

/-- 'caltroplaw07.ShaLengths': WHATEVER THE INPUT: true; the input reads as it did. -/
def shaLengthsSpec : ChangeSpec := { name := "shaLengths", fn := fun _ => fun
  | [d1, d2] => { results := [.lit (.bool true)], args := [d1, d2] }
  | _ => none }
def shaLengthsRow : OpenClaim := { program := "ytjeliomjnalpcaadoor", sum := "3ff26ae1e593c6d2070900dc6ee91e4dc59f3680803bd6f4b54b1685da21da0c", func := "caltrop/caltroplaw07.ShaLengths", spec := "shaLengths", inPlace := ["math/bits.Add64", "math/bits.Sub64"], unfollowed := true, recurses := true, named := ["caltrop/sha.begins", "caltrop/sha.rounds", "math/bits.divideError", "math/bits.overflowError"], apart := false, laid := [("caltrop/sha.begins", laid_caltrop_sha_begins), ("caltrop/sha.rounds", laid_caltrop_sha_rounds)] }
def ShaLengthsSaid : Prop := shaLengthsRow.holds Tryd.pinned (OpenSpec.ofChange shaLengthsSpec)

/-- ITS FALSE NEIGHBOUR: 'it returns false'. Refute it at one input. -/
def shaLengthsWrong : ChangeSpec := { name := "shaLengths", fn := fun _ => fun
  | [d1, d2] => { results := [.lit (.bool false)], args := [d1, d2] }
  | _ => none }
def ShaLengthsWrongFalsely : Prop := shaLengthsRow.holds Tryd.pinned (OpenSpec.ofChange shaLengthsWrong)

/- THE SECOND FORM. 'bulk': how many values and letters a reading holds, each counted each time it is reached (what is shared counts as often as it is met; a slice's spare places count too). A statement '..UptoSaid' is the law's where the arguments, and the package variables that the reading takes, are together of bulk at most 1048576: NARROWER than '..Said'. Prove '..Said' where nothing that the law and all that it calls make is longer than what came in: it says more and counts as full. Else prove '..UptoSaid'. A law counts once. -/
mutual
def uptoBulk {H : Type} : DataW H → Nat
  | .lit (.string bytes) => bytes.length + 1
  | .lit _ => 1
  | .nil => 1
  | .ptr d => uptoBulk d + 1
  | .slice elems spare => uptoBulkAll elems + uptoBulkAll spare + 1
  | .agg parts => uptoBulkAll parts + 1
  | .iface _ d => uptoBulk d + 1
  | .map entries => uptoBulkEntries entries + 1
  | .held _ => 1
def uptoBulkAll {H : Type} : List (DataW H) → Nat
  | [] => 0
  | d :: r => uptoBulk d + uptoBulkAll r
def uptoBulkEntries {H : Type} : List (Lit × DataW H) → Nat
  | [] => 0
  | x :: r => uptoBulkEntry x + uptoBulkEntries r
def uptoBulkEntry {H : Type} : Lit × DataW H → Nat
  | (.string bytes, d) => bytes.length + uptoBulk d + 1
  | (_, d) => uptoBulk d + 1
 end
def uptoSmall : (H : Type) → List (DataW H) → Bool := fun _ ds => decide (uptoBulkAll ds ≤ 1048576)
def OpenSpec.upto (s : _root_.Go.ChangeSpec) : _root_.Go.OpenSpec := { _root_.Go.OpenSpec.ofChange s with cond := some uptoSmall }

/-- 'caltroplaw07.ShaFractions', WHERE WHAT IT READS IS OF BULK AT MOST 1048576: true; the input reads as it did. -/
def shaFractionsUptoRow : OpenClaim := { program := "ytjeliomjnalpcaadoor", sum := "3ff26ae1e593c6d2070900dc6ee91e4dc59f3680803bd6f4b54b1685da21da0c", func := "caltrop/caltroplaw07.ShaFractions", spec := "shaFractions", inPlace := ["math/bits.Add64", "math/bits.Sub64"], unfollowed := true, recurses := true, named := ["math/bits.divideError", "math/bits.overflowError", "caltrop/sha.begins", "caltrop/sha.rounds"], apart := false, laid := [("caltrop/sha.begins", laid_caltrop_sha_begins), ("caltrop/sha.rounds", laid_caltrop_sha_rounds)], narrowed := true }
def ShaFractionsUptoSaid : Prop := shaFractionsUptoRow.holds Tryd.pinned (OpenSpec.upto shaFractionsSpec)

/-- 'caltroplaw07.ShaBetween', WHERE WHAT IT READS IS OF BULK AT MOST 1048576: true; the input reads as it did. -/
def shaBetweenUptoRow : OpenClaim := { program := "ytjeliomjnalpcaadoor", sum := "3ff26ae1e593c6d2070900dc6ee91e4dc59f3680803bd6f4b54b1685da21da0c", func := "caltrop/caltroplaw07.ShaBetween", spec := "shaBetween", inPlace := ["math/bits.Add64", "math/bits.Sub64"], unfollowed := true, recurses := true, named := ["math/bits.divideError", "math/bits.overflowError", "caltrop/sha.begins", "caltrop/sha.rounds"], apart := false, laid := [("caltrop/sha.begins", laid_caltrop_sha_begins), ("caltrop/sha.rounds", laid_caltrop_sha_rounds)], narrowed := true }
def ShaBetweenUptoSaid : Prop := shaBetweenUptoRow.holds Tryd.pinned (OpenSpec.upto shaBetweenSpec)

/-- 'caltroplaw07.ShaSums', WHERE WHAT IT READS IS OF BULK AT MOST 1048576: true; the input reads as it did. -/
def shaSumsUptoRow : OpenClaim := { program := "ytjeliomjnalpcaadoor", sum := "3ff26ae1e593c6d2070900dc6ee91e4dc59f3680803bd6f4b54b1685da21da0c", func := "caltrop/caltroplaw07.ShaSums", spec := "shaSums", inPlace := ["math/bits.Add64", "math/bits.Sub64"], unfollowed := true, recurses := true, named := ["caltrop/sha.begins", "caltrop/sha.rounds", "math/bits.divideError", "math/bits.overflowError"], apart := false, laid := [("caltrop/sha.begins", laid_caltrop_sha_begins), ("caltrop/sha.rounds", laid_caltrop_sha_rounds)], narrowed := true }
def ShaSumsUptoSaid : Prop := shaSumsUptoRow.holds Tryd.pinned (OpenSpec.upto shaSumsSpec)

/-- 'caltroplaw07.ShaParts', WHERE WHAT IT READS IS OF BULK AT MOST 1048576: true; the input reads as it did. -/
def shaPartsUptoRow : OpenClaim := { program := "ytjeliomjnalpcaadoor", sum := "3ff26ae1e593c6d2070900dc6ee91e4dc59f3680803bd6f4b54b1685da21da0c", func := "caltrop/caltroplaw07.ShaParts", spec := "shaParts", inPlace := ["math/bits.Add64", "math/bits.Sub64"], unfollowed := true, recurses := true, named := ["caltrop/sha.begins", "caltrop/sha.rounds", "math/bits.divideError", "math/bits.overflowError"], apart := false, laid := [("caltrop/sha.begins", laid_caltrop_sha_begins), ("caltrop/sha.rounds", laid_caltrop_sha_rounds)], narrowed := true }
def ShaPartsUptoSaid : Prop := shaPartsUptoRow.holds Tryd.pinned (OpenSpec.upto shaPartsSpec)

/-- 'caltroplaw07.ShaLengths', WHERE WHAT IT READS IS OF BULK AT MOST 1048576: true; the input reads as it did. -/
def shaLengthsUptoRow : OpenClaim := { program := "ytjeliomjnalpcaadoor", sum := "3ff26ae1e593c6d2070900dc6ee91e4dc59f3680803bd6f4b54b1685da21da0c", func := "caltrop/caltroplaw07.ShaLengths", spec := "shaLengths", inPlace := ["math/bits.Add64", "math/bits.Sub64"], unfollowed := true, recurses := true, named := ["caltrop/sha.begins", "caltrop/sha.rounds", "math/bits.divideError", "math/bits.overflowError"], apart := false, laid := [("caltrop/sha.begins", laid_caltrop_sha_begins), ("caltrop/sha.rounds", laid_caltrop_sha_rounds)], narrowed := true }
def ShaLengthsUptoSaid : Prop := shaLengthsUptoRow.holds Tryd.pinned (OpenSpec.upto shaLengthsSpec)

end Rows
end Go.Proofs.YtjeliomjnalpcaaDoor
