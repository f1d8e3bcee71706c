/- The document's Encode. -/
import Derived.Test.YtkmclgbiedbfpaaDoorVd
import Derived.Test.YtkmclgbiedbfpaaDoorVe
namespace Go.Proofs.YtkmclgbiedbfpaaDoor
open Go.RowKit Go.Maps

theorem pk_byte (y : Nat) : pk (wb 8 y) = [UInt8.ofNat y] := by
  have h := put_pk [] 8 y (by decide) (by simp)
  rw [List.nil_append] at h
  rw [h]
  have e0 : byteOf [] (([] : List Bool).length / 8) = 0 := byteOf_end [] rfl
  rw [e0]
  simp [pkN]
  apply UInt8.toNat_inj.1
  rw [UInt8.toNat_ofNat', UInt8.toNat_ofNat']
  omega
theorem encR_pk (l : List Sm) : encR l = pk (wb 16 l.length ++ encB l) := by
  rw [pk_app _ _ (by rw [wb_length]), show (16 : Nat) = 8 + 8 from rfl, wb_split, pk_app _ _ (by rw [wb_length]), pk_byte, pk_byte, Nat.shiftRight_eq_div_pow]
  rfl

set_option maxRecDepth 100000 in
set_option maxHeartbeats 1000000 in
theorem rencode_any (v : Value) (l : List Sm) (w : World) (h : SmpAt w v l) (hl : l.length ≤ 120) :
    Calls Tryd.prog 10 #[v] w fun e w' => ∃ v', e = .returned (.tuple #[v', .int .i64 0]) ∧ w'.ownsRow w.heap.size 5 1 v' (encR l).length (byteVals (encR l)) ∧ Below w.heap.size w w' := by
  obtain ⟨a, c, rfl, -, -, -⟩ := id h
  have hrow := rrow_any _ l w h (by omega)
  have hcl : (wb 16 l.length ++ encB l).length ≤ 1000000 := by
    have := encB_length l
    rw [List.length_append, wb_length]
    omega
  have HPA : Hid (∀ W V, BytesAt W V (bitsU (wb 16 l.length ++ encB l)) → Calls Tryd.prog 29 #[V] W fun e w' => ∃ v', e = .returned v' ∧ w'.ownsRow W.heap.size 5 1 v' (encR l).length (byteVals (encR l)) ∧ Below W.heap.size W w') := fun W V hV => by
    have := rpack_any V _ W hV hcl
    rw [← encR_pk] at this
    exact this
  have hl2 : (l.length : Int) ≤ 120 := by omega
  have HBU : Hid ((wb 16 l.length ++ encB l).length = (bitsU (wb 16 l.length ++ encB l)).length) := (bitsU_length _).symm
  clear h hcl
  go_enter Tryd.func10, Tryd.ntmps10
  go_wp2_with (first
    | (go_at_call 13; refine hrow.mono ?_; clear hrow; rintro e w1 ⟨v1, rfl, hr1, hb1⟩; rw [HBU.out] at hr1; have hpa := HPA.out w1 v1 (BytesAt.of_row hr1); have HB1 : Hid (Below w.heap.size w w1) := hb1; clear hr1 hb1 HPA)
    | (go_at_call 29; refine hpa.mono ?_; clear hpa; rintro e w2 ⟨v2, rfl, hr2, hb2⟩; have HR2 : Hid (w2.ownsRow w.heap.size 5 1 v2 (encR l).length (byteVals (encR l))) := row_mono hr2 HB1.out.size; have HB2 : Hid (Below w.heap.size w w2) := HB1.out.trans (hb2.mono HB1.out.size); clear hr2 hb2))
  go_ret2
  exact ⟨v2, rfl, HR2.out, HB2.out⟩

set_option maxRecDepth 100000 in
set_option maxHeartbeats 1000000 in
theorem rencode_many (v : Value) (l : List Sm) (w : World) (h : SmpAt w v l) (hl : 120 < l.length) :
    Calls Tryd.prog 10 #[v] w fun e w' => e = .returned (.tuple #[.slice none 0 0, .int .i64 15]) ∧ w' = w := by
  obtain ⟨a, c, rfl, -, -, -⟩ := id h
  have hl2 : (120 : Int) < (l.length : Int) := by omega
  clear h
  go_enter Tryd.func10, Tryd.ntmps10
  go_wp2
  go_ret2
  exact ⟨rfl, rfl⟩

end Go.Proofs.YtkmclgbiedbfpaaDoor
