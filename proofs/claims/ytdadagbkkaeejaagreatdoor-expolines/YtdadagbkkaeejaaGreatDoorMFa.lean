/- Texts that belong together. -/
import Derived.Test.YtdadagbkkaeejaaGreatDoorMDr
import Derived.Test.YtdadagbkkaeejaaGreatDoorSr
import Derived.Lib.Strings
import Derived.Test.YtdadagbkkaeejaaGreatDoorMPp
import Derived.Test.YtdadagbkkaeejaaGreatDoorMEl
/- Whole numbers written, and zeros. -/
namespace Go.Proofs.YtdadagbkkaeejaaGreatDoor.Nu
open Go.RowKit Go.Maps Go.Sort

end Go.Proofs.YtdadagbkkaeejaaGreatDoor.Nu

/- Zeros, and a float's text without a power of ten. -/
namespace Go.Proofs.YtdadagbkkaeejaaGreatDoor.Nu
open Go.RowKit Go.Maps

theorem zeros_cut (n c : Nat) (hc : c ≤ n) : (⟨(List.replicate n (48 : UInt8)).toArray⟩ : ByteArray).extract 0 c = ⟨(List.replicate c 48).toArray⟩ := by
  apply ByteArray.ext
  rw [ByteArray.data_extract]
  apply Array.ext'
  rw [Array.toList_extract]
  simp [List.extract, List.take_replicate, Nat.min_eq_left hc]
def Z64 : ByteArray := ⟨(List.replicate 64 48).toArray⟩

end Go.Proofs.YtdadagbkkaeejaaGreatDoor.Nu

/- The document's digits of a whole number. -/
namespace Go.Proofs.YtdadagbkkaeejaaGreatDoor.Nu
open Go.RowKit Go.Maps

theorem ba_join (a b : List UInt8) : ((⟨a.toArray⟩ : ByteArray) ++ ⟨b.toArray⟩) = ⟨(a ++ b).toArray⟩ := by
  apply ByteArray.ext
  simp
theorem conv_digit (W : World) (z : Int) (h0 : 0 ≤ z) (h1 : z < 256) : (convert 22 9 (.slice (some ⟨W.heap.size, 0, none⟩) 1 1)).run Tryz.prog (W.alloc (.cells #[.int .u8 z] 5)) = .ok (.string ⟨#[UInt8.ofNat z.toNat]⟩) (W.alloc (.cells #[.int .u8 z] 5)) := by
  refine run_convert_bytes_back (P := Tryz.prog) (W.alloc (.cells #[.int .u8 z] 5)) 22 9 5 ⟨W.heap.size, 0, none⟩ 1 [UInt8.ofNat z.toNat] Tryz.underlying22 Tryz.underlying5 Tryz.underlying9 (fun j hj => ?_)
  have hj0 : j = 0 := by simp at hj; omega
  subst hj0
  have e : ((UInt8.ofNat z.toNat).toNat : Int) = z := by rw [UInt8.toNat_ofNat']; omega
  have hc : (W.alloc (.cells #[.int .u8 z] 5)).cell? ⟨W.heap.size, 0, none⟩ = some (.int .u8 z) := by
    have := heap_alloc_new W (.cells #[.int .u8 z] 5)
    simp only [World.cell?, this]
    rfl
  rw [Addr.add_lit, hc]
  show some (Value.int .u8 z) = some (Value.int .u8 ((UInt8.ofNat z.toNat).toNat : Nat))
  rw [e]
end Go.Proofs.YtdadagbkkaeejaaGreatDoor.Nu

/- The document's text of a whole number. -/
namespace Go.Proofs.YtdadagbkkaeejaaGreatDoor.Nu
open Go.RowKit Go.Maps

end Go.Proofs.YtdadagbkkaeejaaGreatDoor.Nu

/- The document's reading of whole numbers. -/
namespace Go.Proofs.YtdadagbkkaeejaaGreatDoor.Nu
open Go.RowKit Go.Maps

end Go.Proofs.YtdadagbkkaeejaaGreatDoor.Nu
