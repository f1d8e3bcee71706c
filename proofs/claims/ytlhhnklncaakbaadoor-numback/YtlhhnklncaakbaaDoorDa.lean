/- Reading numbers: decimals. -/
import Derived.Test.YtlhhnklncaakbaaDoorN9
import Derived.Laws.ResultCell
namespace Go.Proofs.YtlhhnklncaakbaaDoor
open Go.RowKit Go.Maps

def u8s (bs : List UInt8) : List Value := bs.map fun b => .int .u8 b.toNat
theorem u8s_append (a b : List UInt8) : u8s (a ++ b) = u8s a ++ u8s b := by simp [u8s]
theorem u8s_length (a : List UInt8) : (u8s a).length = a.length := by simp [u8s]
theorem infoU8 : (Tryd.prog.info? 5).map (fun i => (i.zero, i.size, i.bytes)) = some (some (.int .u8 0), 1, 1) := by kernel_rfl

def scanD : List UInt8 → List UInt8 → Int → Nat → Bool → List UInt8 × Int × Nat × List UInt8
  | [], ds, p, n, _ => (ds, p, n, [])
  | b :: t, ds, p, n, pt =>
    if 48 ≤ b.toNat ∧ b.toNat ≤ 57 then scanD t (if b.toNat ≠ 48 ∨ ds ≠ [] then ds ++ [UInt8.ofNat (b.toNat - 48)] else ds) (if pt then p - 1 else p) (n + 1) pt
    else if b.toNat = 46 ∧ pt = false then scanD t ds p n true
    else (ds, p, n, b :: t)
def decR (s : ByteArray) : Option (List UInt8 × Int) :=
  match scanD s.data.toList [] 0 0 false with
  | (ds, p, n, rest) => if n = 0 then none else match rest with
    | [] => some (ds, p)
    | b :: t => if b.toNat = 101 ∨ b.toNat = 69 then (if (expR ⟨t.toArray⟩).2 then some (ds, p + (expR ⟨t.toArray⟩).1) else none) else none

set_option maxRecDepth 100000 in
theorem res_dec (tmps : Array Value) (b : Nat) (ok : Bool) (hp : tmps.getD 2 undef = .pointer (some ⟨b, 0, none⟩)) (h3 : tmps.getD 3 undef = .bool ok) (W : World) (v0 v1 : Value) (hb : W.heap[b]? = some (.cells #[v0, v1] 74 (0, 0))) :
    (results Tryd.f50 tmps).run Tryd.prog W = .ok (.tuple #[.agg #[v0, v1], .bool ok]) W := by
  rw [results_cell_tmp Tryd.results50]
  have hp' : tmps[2]?.getD undef = .pointer (some ⟨b, 0, none⟩) := by simpa using hp
  have h3' : tmps[3]?.getD undef = .bool ok := by simpa using h3
  have hc0 : W.cell? ⟨b, 0, none⟩ = some v0 := by simp [World.cell?, hb]
  have hc1 : W.cell? ⟨b, 1, none⟩ = some v1 := by simp [World.cell?, hb]
  simp [hp', h3', go_sem, hc0, hc1]

end Go.Proofs.YtlhhnklncaakbaaDoor
