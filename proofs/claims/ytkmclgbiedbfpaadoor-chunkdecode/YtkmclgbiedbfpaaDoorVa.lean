/- The document's bits: put. -/
import Derived.Test.YtkmclgbiedbfpaaDoorK8
namespace Go.Proofs.YtkmclgbiedbfpaaDoor
open Go.RowKit Go.Maps

def bb (b : Bool) : UInt8 := if b then 1 else 0
def bitsU (bs : List Bool) : List UInt8 := bs.map bb
theorem bitsU_length (bs : List Bool) : (bitsU bs).length = bs.length := by simp [bitsU]
theorem bitsU_append (a b : List Bool) : bitsU (a ++ b) = bitsU a ++ bitsU b := by simp [bitsU]
theorem one_at {w : World} {g : Nat} {x : Int} {b : UInt8} (h : w.heap[g]? = some (.cells #[.int .u8 x] 5)) (h0 : x = b.toNat) : BytesAt w (.slice (some ⟨g, 0, none⟩) 1 1) [b] := by
  subst h0
  exact BytesAt.of_row (base := 0) (bs := [b]) ⟨rfl, Or.inr ⟨g, 1, _, rfl, Nat.zero_le _, h, Nat.le_refl _, by decide, rfl, rfl⟩⟩
theorem and_one (y : Nat) : y &&& 1 = (y.testBit 0).toNat := by
  rw [Nat.and_one_is_mod, Nat.testBit_zero]
  have : y % 2 = 0 ∨ y % 2 = 1 := by omega
  rcases this with h | h <;> simp [h]
theorem bit_nat (x r : Nat) (hx : x < 18446744073709551616) : bits .and .u64 ((x : Int) / 2 ^ r) 1 = ((x.testBit r).toNat : Int) := by
  have e2 : (x : Int) / 2 ^ r = ((x >>> r : Nat) : Int) := by
    rw [Nat.shiftRight_eq_div_pow]
    simp
  have hsh : x >>> r < 18446744073709551616 := by
    rw [Nat.shiftRight_eq_div_pow]
    exact Nat.lt_of_le_of_lt (Nat.div_le_self _ _) hx
  rw [e2, show (1 : Int) = ((1 : Nat) : Int) from rfl, u64_and_nat _ _ hsh (by omega), and_one, Nat.testBit_shiftRight]
  rfl
theorem bb_nat (b : Bool) : ((bb b).toNat : Int) = (b.toNat : Int) := by cases b <;> rfl
theorem bit_val (x r : Nat) (hx : x < 18446744073709551616) : bits .and .u64 ((x : Int) / 2 ^ r) 1 % 256 = ((bb (x.testBit r)).toNat : Int) := by
  rw [bit_nat x r hx, bb_nat]
  cases x.testBit r <;> rfl
/-- The document's row of bits. -/
def Bt (w : World) (base P : Nat) (cs : List Bool) : Prop :=
  base ≤ P ∧ base ≤ w.heap.size ∧ ∃ a c, w.heap[P]? = some (.cells #[.slice a cs.length c] 70) ∧ w.ownsRow base 5 1 (.slice a cs.length c) cs.length (byteVals (bitsU cs))
theorem wb_next (n x r : Nat) (h : r < n) : (wb n x).take (n - (r + 1)) ++ [x.testBit r] = (wb n x).take (n - r) := by
  have e : n - r = (n - (r + 1)) + 1 := by omega
  have hl : n - (r + 1) < (wb n x).length := by rw [wb_length]; omega
  rw [e, List.take_succ_eq_append_getElem hl]
  congr 2
  have := wb_get n x (n - (r + 1))
  rw [List.getD_eq_getElem?_getD, List.getElem?_eq_getElem hl] at this
  have e2 : n - 1 - (n - (r + 1)) = r := by omega
  have e3 : n - (r + 1) < n := by omega
  simp [e2, e3] at this
  exact this.symm

set_option maxRecDepth 100000 in
set_option maxHeartbeats 2000000 in
theorem rput_any (base P : Nat) (cs : List Bool) (x n : Nat) (w : World) (h : Bt w base P cs) (hn : n ≤ 64) (hx : x < 18446744073709551616) (hl : cs.length + n ≤ 10000000) :
    Calls Tryd.prog 31 #[.pointer (some ⟨P, 0, none⟩), .int .u64 x, .int .i64 n] w fun e w' => e = .returned (.tuple #[]) ∧ Bt w' base P (cs ++ wb n x) ∧ Below base w w' := by
  have HW : Hid (Bt w base P cs) := h
  clear h
  go_enter Tryd.func31, Tryd.ntmps31
  go_wp2
  go_loopw [6] (fun i wr => ∃ r : Nat, r ≤ n ∧ i = .int .i64 ((r : Int) - 1) ∧ Hid (Bt wr base P (cs ++ (wb n x).take (n - r)) ∧ Below base w wr)) (fun i _ => (intOf i + 1).toNat)
  case atStart => exact ⟨n, Nat.le_refl _, rfl, by rw [Nat.sub_self, List.take_zero, List.append_nil]; exact HW.out, Below.refl _ _⟩
  case round =>
    obtain ⟨r, hr, rfl, hI⟩ := hrel
    clear HW
    cases r with
    | zero =>
      go_wp2
      go_end0
      obtain ⟨h1, h2⟩ := hI.out
      rw [Nat.sub_zero, List.take_of_length_le (by rw [wb_length]; omega)] at h1
      exact ⟨rfl, h1, h2⟩
    | succ r =>
      rw [show ((r + 1 : Nat) : Int) - 1 = (r : Int) by omega]
      obtain ⟨⟨hP, hbs, a, c, hh, hrow⟩, hbl⟩ := hI.out
      have HDS : Hid (cs ++ (wb n x).take (n - (r + 1)) ++ [x.testBit r] = cs ++ (wb n x).take (n - r)) := by
        show _ = _
        rw [List.append_assoc, wb_next n x r (by omega)]
      have hdl : (cs ++ (wb n x).take (n - (r + 1))).length ≤ 10000000 := by simp [wb_length]; omega
      generalize cs ++ (wb n x).take (n - (r + 1)) = ds at *
      obtain ⟨m, hm⟩ : ∃ m, m = ds.length := ⟨_, rfl⟩
      rw [← hm] at hh hrow hdl
      have c1 : wr.cell? ⟨P, 0, none⟩ = some (.slice a m c) := by rw [cell_of_heap hh]; rfl
      have hrn := row_ne hrow hh (by decide)
      have HROW : Hid (wr.ownsRow base 5 1 (.slice a m c) m (byteVals (bitsU ds))) := hrow
      have HH : Hid (wr.heap[P]? = some (.cells #[.slice a m c] 70)) := hh
      have HRN : Hid ((Value.slice a m c).ownBlock ≠ some P) := hrn
      have HBL : Hid (Below base w wr) := hbl
      have HMM : Hid (m = ds.length) := hm
      have hval := bit_val x r hx
      have HVAL : Hid (bits .and .u64 ((x : Int) / 2 ^ r) 1 % 256 = ((bb (x.testBit r)).toNat : Int)) := hval
      clear hI hrow hh hbl hrn hm hval
      go_wp2_with (at_builtin; refine wpList_append_bytes _ rfl _ _ rfl base (.slice a m c) m (byteVals (bitsU ds)) rfl (HROW.out.alloc _) _ [bb (x.testBit r)] rfl (one_at (heap_alloc_new wr _) HVAL.out) (show m + 1 ≤ _ by omega) (Nat.le_trans hbs (by simp)) ?_; intro v2 w2 hr2 hg2 hloc2; obtain ⟨a2, c2, rfl⟩ := slice_of_row hr2; have hh2 := (hg2.block P (by simp; have := (Array.getElem?_eq_some_iff.1 HH.out).1; omega) HRN.out.symm).trans ((Below.heap_alloc wr _ P (Array.getElem?_eq_some_iff.1 HH.out).1).trans HH.out); have f2 : w2.frozen? ⟨P, 0, none⟩ = false := frozen_of_heap hh2; have d1 : w2.cell? ⟨P, 0, none⟩ = some (.slice a m c) := (by rw [cell_of_heap hh2]; rfl); have HH2 : Hid (w2.heap[P]? = some (.cells #[.slice a m c] 70)) := hh2; have HR2 : Hid (w2.ownsRow base 5 1 (.slice a2 (m + [bb (x.testBit r)].length) c2) (m + [bb (x.testBit r)].length) (byteVals (bitsU ds) ++ byteVals [bb (x.testBit r)])) := hr2; have HG2 : Hid (Below base w wr → Below base w w2) := (fun hB => (hB.alloc hbs _).grown hg2 (Nat.le_trans hbs (by simp)) (fun j hj => (World.ownsRow.lt HROW.out j hj).1)); have hs2 := hg2.size; clear hh2 hr2 hg2)
      go_roundw
      case rel =>
        refine ⟨r, by omega, rfl, ⟨hP, ?_, a2, c2, ?_, ?_⟩, ?_⟩
        · have h1 := hs2
          simp [World.setCell] at h1 ⊢
          omega
        · rw [← HDS.out, heap_setCell_same HH2.out, List.length_append, ← HMM.out]
          rfl
        · rw [← HDS.out, List.length_append, ← HMM.out, bitsU_append, byteVals_append]
          exact ((Kept.refl (fun k => k = P) w2).setCell (p := ⟨P, 0, none⟩) (fun _ => rfl) _).ownsRow HR2.out (fun k hk e => row_ne HR2.out HH2.out (by decide) (hk.trans (congrArg some e)))
        · exact (HG2.out HBL.out).setCell hP _
      case measure => simp [intOf]

end Go.Proofs.YtkmclgbiedbfpaaDoor
