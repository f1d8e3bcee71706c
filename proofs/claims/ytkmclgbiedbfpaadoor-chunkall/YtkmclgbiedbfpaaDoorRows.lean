/-
  NARROWER THAN 'FOR EVERY INPUT', by the rows' own cells (each row's printed sentence says how): ChunkBits: laid · ChunkBack: laid · ChunkDecode: laid · ChunkAll: laid · ChunkUnlike: laid · ChunkSteady: laid.
  DERIVED. THE GIVEN ROWS OF THIS SEAT. 6 by the template 'for every input the law returns true; each argument reads behind the call as it read before'; 0 by the template 'total and deterministic' (their statements: YtkmclgbiedbfpaaDoorTotals.lean).
  GIVEN WITH THE SEED: the statements are not yours to turn. If you find one false, say at which input.
  Laid BY PROGRAM, IN A SANDBOX (cutbox-rows.mjs): the forced cells as the released guide's own fill.sh prints them over the translation db2a37e55298fd22… (all of the seat's roots in one cut). By AI agents, Wed Nov 11 2026. No macro, syntax, notation, axiom, sorry.
-/
import Derived.Test.YtkmclgbiedbfpaaDoorChecked
import GoSem.Claim
import GoSem.ClaimJoined
import GoSem.ClaimMapViews
import Derived.JoinedTies
import Derived.KernelRfl
namespace Go.Proofs.YtkmclgbiedbfpaaDoor
/- THE CELL 'sum', in the pinned program and in every row, IS THE sha256 OF THE DUMP (.gsa) THAT YtkmclgbiedbfpaaDoorProg.lean LOADS. Nothing in Lean hashes anything: it is a label: what it is worth is what the hold of that sum in a sandbox is worth. -/
noncomputable def Tryd.pinned : Pinned := { name := "ytkmclgbiedbfpaadoor", sum := "db2a37e55298fd22004ca3d60acff8b9131a4801b294a5d26b62932e18cbe842", checked := Tryd.checked }
namespace Rows
def none {H : Type} : Left H := { results := [], args := [] }

/- WHAT THE LISTED PACKAGE-LEVEL VARIABLES READ AS WHEN THE CALL BEGINS. Each datum BY PROGRAM (the guide's laid-datum.mjs) off the statement by which the dump's own 'gosem.cut.vars' lays the variable. In a bare row this is a premise. The card (YtkmclgbiedbfpaaDoorCards.lean) ties it to the program's text. -/
def laid_math_bits_deBruijn64tab {H : Type} : DataW H := .agg [.lit (.int .u8 0), .lit (.int .u8 1), .lit (.int .u8 56), .lit (.int .u8 2), .lit (.int .u8 57), .lit (.int .u8 49), .lit (.int .u8 28), .lit (.int .u8 3), .lit (.int .u8 61), .lit (.int .u8 58), .lit (.int .u8 42), .lit (.int .u8 50), .lit (.int .u8 38), .lit (.int .u8 29), .lit (.int .u8 17), .lit (.int .u8 4), .lit (.int .u8 62), .lit (.int .u8 47), .lit (.int .u8 59), .lit (.int .u8 36), .lit (.int .u8 45), .lit (.int .u8 43), .lit (.int .u8 51), .lit (.int .u8 22), .lit (.int .u8 53), .lit (.int .u8 39), .lit (.int .u8 33), .lit (.int .u8 30), .lit (.int .u8 24), .lit (.int .u8 18), .lit (.int .u8 12), .lit (.int .u8 5), .lit (.int .u8 63), .lit (.int .u8 55), .lit (.int .u8 48), .lit (.int .u8 27), .lit (.int .u8 60), .lit (.int .u8 41), .lit (.int .u8 37), .lit (.int .u8 16), .lit (.int .u8 46), .lit (.int .u8 35), .lit (.int .u8 44), .lit (.int .u8 21), .lit (.int .u8 52), .lit (.int .u8 32), .lit (.int .u8 23), .lit (.int .u8 11), .lit (.int .u8 54), .lit (.int .u8 26), .lit (.int .u8 40), .lit (.int .u8 15), .lit (.int .u8 34), .lit (.int .u8 20), .lit (.int .u8 31), .lit (.int .u8 10), .lit (.int .u8 25), .lit (.int .u8 14), .lit (.int .u8 19), .lit (.int .u8 9), .lit (.int .u8 13), .lit (.int .u8 8), .lit (.int .u8 7), .lit (.int .u8 6)]
def laid_vigil_chunk_steps {H : Type} : DataW H := .agg [.lit (.int .i64 7), .lit (.int .i64 9), .lit (.int .i64 12)]

/-- 'vigillaw05.ChunkBits': WHATEVER THE INPUT: true; the input reads as it did. -/
def chunkBitsSpec : ChangeSpec := { name := "chunkBits", fn := fun _ => fun
  | [d] => { results := [.lit (.bool true)], args := [d] }
  | _ => none }
def chunkBitsRow : OpenClaim := { program := "ytkmclgbiedbfpaadoor", sum := "db2a37e55298fd22004ca3d60acff8b9131a4801b294a5d26b62932e18cbe842", func := "vigil/vigillaw05.ChunkBits", spec := "chunkBits", inPlace := ["math.Float64bits", "math.Float64frombits"], unfollowed := true, recurses := true, named := ["vigil/chunk.steps", "math/bits.deBruijn64tab"], apart := false, laid := [("math/bits.deBruijn64tab", laid_math_bits_deBruijn64tab), ("vigil/chunk.steps", laid_vigil_chunk_steps)] }
def ChunkBitsSaid : Prop := chunkBitsRow.holds Tryd.pinned (OpenSpec.ofChange chunkBitsSpec)

/-- ITS FALSE NEIGHBOUR: 'it returns false'. Refute it at one input. -/
def chunkBitsWrong : ChangeSpec := { name := "chunkBits", fn := fun _ => fun
  | [d] => { results := [.lit (.bool false)], args := [d] }
  | _ => none }
def ChunkBitsWrongFalsely : Prop := chunkBitsRow.holds Tryd.pinned (OpenSpec.ofChange chunkBitsWrong)

/-- 'vigillaw05.ChunkBack': WHATEVER THE INPUT: true; the input reads as it did. -/
def chunkBackSpec : ChangeSpec := { name := "chunkBack", fn := fun _ => fun
  | [d] => { results := [.lit (.bool true)], args := [d] }
  | _ => none }
def chunkBackRow : OpenClaim := { program := "ytkmclgbiedbfpaadoor", sum := "db2a37e55298fd22004ca3d60acff8b9131a4801b294a5d26b62932e18cbe842", func := "vigil/vigillaw05.ChunkBack", spec := "chunkBack", inPlace := ["math.Float64bits", "math.Float64frombits"], unfollowed := true, recurses := true, named := ["vigil/chunk.steps", "math/bits.deBruijn64tab"], apart := false, laid := [("math/bits.deBruijn64tab", laid_math_bits_deBruijn64tab), ("vigil/chunk.steps", laid_vigil_chunk_steps)] }
def ChunkBackSaid : Prop := chunkBackRow.holds Tryd.pinned (OpenSpec.ofChange chunkBackSpec)

/-- ITS FALSE NEIGHBOUR: 'it returns false'. Refute it at one input. -/
def chunkBackWrong : ChangeSpec := { name := "chunkBack", fn := fun _ => fun
  | [d] => { results := [.lit (.bool false)], args := [d] }
  | _ => none }
def ChunkBackWrongFalsely : Prop := chunkBackRow.holds Tryd.pinned (OpenSpec.ofChange chunkBackWrong)

/-- 'vigillaw05.ChunkDecode': WHATEVER THE INPUT: true; the input reads as it did. -/
def chunkDecodeSpec : ChangeSpec := { name := "chunkDecode", fn := fun _ => fun
  | [d] => { results := [.lit (.bool true)], args := [d] }
  | _ => none }
def chunkDecodeRow : OpenClaim := { program := "ytkmclgbiedbfpaadoor", sum := "db2a37e55298fd22004ca3d60acff8b9131a4801b294a5d26b62932e18cbe842", func := "vigil/vigillaw05.ChunkDecode", spec := "chunkDecode", inPlace := ["math.Float64frombits", "math.Float64bits"], unfollowed := true, recurses := true, named := ["vigil/chunk.steps", "math/bits.deBruijn64tab"], apart := false, laid := [("math/bits.deBruijn64tab", laid_math_bits_deBruijn64tab), ("vigil/chunk.steps", laid_vigil_chunk_steps)] }
def ChunkDecodeSaid : Prop := chunkDecodeRow.holds Tryd.pinned (OpenSpec.ofChange chunkDecodeSpec)

/-- ITS FALSE NEIGHBOUR: 'it returns false'. Refute it at one input. -/
def chunkDecodeWrong : ChangeSpec := { name := "chunkDecode", fn := fun _ => fun
  | [d] => { results := [.lit (.bool false)], args := [d] }
  | _ => none }
def ChunkDecodeWrongFalsely : Prop := chunkDecodeRow.holds Tryd.pinned (OpenSpec.ofChange chunkDecodeWrong)

/-- 'vigillaw05.ChunkAll': WHATEVER THE INPUT: true; the input reads as it did. -/
def chunkAllSpec : ChangeSpec := { name := "chunkAll", fn := fun _ => fun
  | [d1, d2] => { results := [.lit (.bool true)], args := [d1, d2] }
  | _ => none }
def chunkAllRow : OpenClaim := { program := "ytkmclgbiedbfpaadoor", sum := "db2a37e55298fd22004ca3d60acff8b9131a4801b294a5d26b62932e18cbe842", func := "vigil/vigillaw05.ChunkAll", spec := "chunkAll", inPlace := ["math.Float64frombits", "math.Float64bits"], unfollowed := true, recurses := true, named := ["vigil/chunk.steps", "math/bits.deBruijn64tab"], apart := false, laid := [("math/bits.deBruijn64tab", laid_math_bits_deBruijn64tab), ("vigil/chunk.steps", laid_vigil_chunk_steps)] }
def ChunkAllSaid : Prop := chunkAllRow.holds Tryd.pinned (OpenSpec.ofChange chunkAllSpec)

/-- ITS FALSE NEIGHBOUR: 'it returns false'. Refute it at one input. -/
def chunkAllWrong : ChangeSpec := { name := "chunkAll", fn := fun _ => fun
  | [d1, d2] => { results := [.lit (.bool false)], args := [d1, d2] }
  | _ => none }
def ChunkAllWrongFalsely : Prop := chunkAllRow.holds Tryd.pinned (OpenSpec.ofChange chunkAllWrong)

/-- 'vigillaw05.ChunkUnlike': WHATEVER THE INPUT: true; the input reads as it did. -/
def chunkUnlikeSpec : ChangeSpec := { name := "chunkUnlike", fn := fun _ => fun
  | [d1, d2] => { results := [.lit (.bool true)], args := [d1, d2] }
  | _ => none }
def chunkUnlikeRow : OpenClaim := { program := "ytkmclgbiedbfpaadoor", sum := "db2a37e55298fd22004ca3d60acff8b9131a4801b294a5d26b62932e18cbe842", func := "vigil/vigillaw05.ChunkUnlike", spec := "chunkUnlike", inPlace := ["math.Float64bits", "math.Float64frombits"], unfollowed := true, recurses := true, named := ["vigil/chunk.steps", "math/bits.deBruijn64tab"], apart := false, laid := [("math/bits.deBruijn64tab", laid_math_bits_deBruijn64tab), ("vigil/chunk.steps", laid_vigil_chunk_steps)] }
def ChunkUnlikeSaid : Prop := chunkUnlikeRow.holds Tryd.pinned (OpenSpec.ofChange chunkUnlikeSpec)

/-- ITS FALSE NEIGHBOUR: 'it returns false'. Refute it at one input. -/
def chunkUnlikeWrong : ChangeSpec := { name := "chunkUnlike", fn := fun _ => fun
  | [d1, d2] => { results := [.lit (.bool false)], args := [d1, d2] }
  | _ => none }
def ChunkUnlikeWrongFalsely : Prop := chunkUnlikeRow.holds Tryd.pinned (OpenSpec.ofChange chunkUnlikeWrong)

/-- 'vigillaw05.ChunkSteady': WHATEVER THE INPUT: true; the input reads as it did. -/
def chunkSteadySpec : ChangeSpec := { name := "chunkSteady", fn := fun _ => fun
  | [d] => { results := [.lit (.bool true)], args := [d] }
  | _ => none }
def chunkSteadyRow : OpenClaim := { program := "ytkmclgbiedbfpaadoor", sum := "db2a37e55298fd22004ca3d60acff8b9131a4801b294a5d26b62932e18cbe842", func := "vigil/vigillaw05.ChunkSteady", spec := "chunkSteady", inPlace := ["math.Float64bits", "math.Float64frombits"], unfollowed := true, recurses := true, named := ["vigil/chunk.steps", "math/bits.deBruijn64tab"], apart := false, laid := [("math/bits.deBruijn64tab", laid_math_bits_deBruijn64tab), ("vigil/chunk.steps", laid_vigil_chunk_steps)] }
def ChunkSteadySaid : Prop := chunkSteadyRow.holds Tryd.pinned (OpenSpec.ofChange chunkSteadySpec)

/-- ITS FALSE NEIGHBOUR: 'it returns false'. Refute it at one input. -/
def chunkSteadyWrong : ChangeSpec := { name := "chunkSteady", fn := fun _ => fun
  | [d] => { results := [.lit (.bool false)], args := [d] }
  | _ => none }
def ChunkSteadyWrongFalsely : Prop := chunkSteadyRow.holds Tryd.pinned (OpenSpec.ofChange chunkSteadyWrong)

/- THE SECOND FORM. 'bulk': how many values and letters a reading holds, each counted each time it is reached (what is shared counts as often as it is met; a slice's spare places count too). A statement '..UptoSaid' is the law's where the arguments, and the package variables that the reading takes, are together of bulk at most 1048576: NARROWER than '..Said'. Prove '..Said' where nothing that the law and all that it calls make is longer than what came in: it says more and counts as full. Else prove '..UptoSaid'. A law counts once. -/
mutual
def uptoBulk {H : Type} : DataW H → Nat
  | .lit (.string bytes) => bytes.length + 1
  | .lit _ => 1
  | .nil => 1
  | .ptr d => uptoBulk d + 1
  | .slice elems spare => uptoBulkAll elems + uptoBulkAll spare + 1
  | .agg parts => uptoBulkAll parts + 1
  | .iface _ d => uptoBulk d + 1
  | .map entries => uptoBulkEntries entries + 1
  | .held _ => 1
def uptoBulkAll {H : Type} : List (DataW H) → Nat
  | [] => 0
  | d :: r => uptoBulk d + uptoBulkAll r
def uptoBulkEntries {H : Type} : List (Lit × DataW H) → Nat
  | [] => 0
  | x :: r => uptoBulkEntry x + uptoBulkEntries r
def uptoBulkEntry {H : Type} : Lit × DataW H → Nat
  | (.string bytes, d) => bytes.length + uptoBulk d + 1
  | (_, d) => uptoBulk d + 1
 end
def uptoSmall : (H : Type) → List (DataW H) → Bool := fun _ ds => decide (uptoBulkAll ds ≤ 1048576)
def OpenSpec.upto (s : _root_.Go.ChangeSpec) : _root_.Go.OpenSpec := { _root_.Go.OpenSpec.ofChange s with cond := some uptoSmall }

/-- 'vigillaw05.ChunkBits', WHERE WHAT IT READS IS OF BULK AT MOST 1048576: true; the input reads as it did. -/
def chunkBitsUptoRow : OpenClaim := { program := "ytkmclgbiedbfpaadoor", sum := "db2a37e55298fd22004ca3d60acff8b9131a4801b294a5d26b62932e18cbe842", func := "vigil/vigillaw05.ChunkBits", spec := "chunkBits", inPlace := ["math.Float64bits", "math.Float64frombits"], unfollowed := true, recurses := true, named := ["vigil/chunk.steps", "math/bits.deBruijn64tab"], apart := false, laid := [("math/bits.deBruijn64tab", laid_math_bits_deBruijn64tab), ("vigil/chunk.steps", laid_vigil_chunk_steps)], narrowed := true }
def ChunkBitsUptoSaid : Prop := chunkBitsUptoRow.holds Tryd.pinned (OpenSpec.upto chunkBitsSpec)

/-- 'vigillaw05.ChunkBack', WHERE WHAT IT READS IS OF BULK AT MOST 1048576: true; the input reads as it did. -/
def chunkBackUptoRow : OpenClaim := { program := "ytkmclgbiedbfpaadoor", sum := "db2a37e55298fd22004ca3d60acff8b9131a4801b294a5d26b62932e18cbe842", func := "vigil/vigillaw05.ChunkBack", spec := "chunkBack", inPlace := ["math.Float64bits", "math.Float64frombits"], unfollowed := true, recurses := true, named := ["vigil/chunk.steps", "math/bits.deBruijn64tab"], apart := false, laid := [("math/bits.deBruijn64tab", laid_math_bits_deBruijn64tab), ("vigil/chunk.steps", laid_vigil_chunk_steps)], narrowed := true }
def ChunkBackUptoSaid : Prop := chunkBackUptoRow.holds Tryd.pinned (OpenSpec.upto chunkBackSpec)

/-- 'vigillaw05.ChunkDecode', WHERE WHAT IT READS IS OF BULK AT MOST 1048576: true; the input reads as it did. -/
def chunkDecodeUptoRow : OpenClaim := { program := "ytkmclgbiedbfpaadoor", sum := "db2a37e55298fd22004ca3d60acff8b9131a4801b294a5d26b62932e18cbe842", func := "vigil/vigillaw05.ChunkDecode", spec := "chunkDecode", inPlace := ["math.Float64frombits", "math.Float64bits"], unfollowed := true, recurses := true, named := ["vigil/chunk.steps", "math/bits.deBruijn64tab"], apart := false, laid := [("math/bits.deBruijn64tab", laid_math_bits_deBruijn64tab), ("vigil/chunk.steps", laid_vigil_chunk_steps)], narrowed := true }
def ChunkDecodeUptoSaid : Prop := chunkDecodeUptoRow.holds Tryd.pinned (OpenSpec.upto chunkDecodeSpec)

/-- 'vigillaw05.ChunkAll', WHERE WHAT IT READS IS OF BULK AT MOST 1048576: true; the input reads as it did. -/
def chunkAllUptoRow : OpenClaim := { program := "ytkmclgbiedbfpaadoor", sum := "db2a37e55298fd22004ca3d60acff8b9131a4801b294a5d26b62932e18cbe842", func := "vigil/vigillaw05.ChunkAll", spec := "chunkAll", inPlace := ["math.Float64frombits", "math.Float64bits"], unfollowed := true, recurses := true, named := ["vigil/chunk.steps", "math/bits.deBruijn64tab"], apart := false, laid := [("math/bits.deBruijn64tab", laid_math_bits_deBruijn64tab), ("vigil/chunk.steps", laid_vigil_chunk_steps)], narrowed := true }
def ChunkAllUptoSaid : Prop := chunkAllUptoRow.holds Tryd.pinned (OpenSpec.upto chunkAllSpec)

/-- 'vigillaw05.ChunkUnlike', WHERE WHAT IT READS IS OF BULK AT MOST 1048576: true; the input reads as it did. -/
def chunkUnlikeUptoRow : OpenClaim := { program := "ytkmclgbiedbfpaadoor", sum := "db2a37e55298fd22004ca3d60acff8b9131a4801b294a5d26b62932e18cbe842", func := "vigil/vigillaw05.ChunkUnlike", spec := "chunkUnlike", inPlace := ["math.Float64bits", "math.Float64frombits"], unfollowed := true, recurses := true, named := ["vigil/chunk.steps", "math/bits.deBruijn64tab"], apart := false, laid := [("math/bits.deBruijn64tab", laid_math_bits_deBruijn64tab), ("vigil/chunk.steps", laid_vigil_chunk_steps)], narrowed := true }
def ChunkUnlikeUptoSaid : Prop := chunkUnlikeUptoRow.holds Tryd.pinned (OpenSpec.upto chunkUnlikeSpec)

/-- 'vigillaw05.ChunkSteady', WHERE WHAT IT READS IS OF BULK AT MOST 1048576: true; the input reads as it did. -/
def chunkSteadyUptoRow : OpenClaim := { program := "ytkmclgbiedbfpaadoor", sum := "db2a37e55298fd22004ca3d60acff8b9131a4801b294a5d26b62932e18cbe842", func := "vigil/vigillaw05.ChunkSteady", spec := "chunkSteady", inPlace := ["math.Float64bits", "math.Float64frombits"], unfollowed := true, recurses := true, named := ["vigil/chunk.steps", "math/bits.deBruijn64tab"], apart := false, laid := [("math/bits.deBruijn64tab", laid_math_bits_deBruijn64tab), ("vigil/chunk.steps", laid_vigil_chunk_steps)], narrowed := true }
def ChunkSteadyUptoSaid : Prop := chunkSteadyUptoRow.holds Tryd.pinned (OpenSpec.upto chunkSteadySpec)

end Rows
end Go.Proofs.YtkmclgbiedbfpaaDoor
