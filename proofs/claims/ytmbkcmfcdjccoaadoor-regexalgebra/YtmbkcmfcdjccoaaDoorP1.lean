/- The reader of an expression: its bytes. -/
import Derived.Test.YtmbkcmfcdjccoaaDoorP0
import Derived.Test.YtmbkcmfcdjccoaaDoorYa
namespace Go.Proofs.YtmbkcmfcdjccoaaDoor
open Go.RowKit Go.Maps

theorem ret_bo {a b : Bool} (h : a = b) : Ending.returned (.bool a) = .returned (.bool b) := by rw [h]
theorem u8_eq {c d : UInt8} : ((c.toNat : Int) == (d.toNat : Int)) = (c == d) := by
  rw [Bool.eq_iff_iff, beq_iff_eq, beq_iff_eq, ← UInt8.toNat_inj]
  omega
theorem byteAt (s : ByteArray) (k : Nat) (h : k < s.size) : s.data.toList[k]'(by simpa using h) = s[k] := by
  rw [Array.getElem_toList]
  rfl
theorem len_list (s : ByteArray) : s.data.toList.length = s.size := by simp
theorem at_some {s : ByteArray} {i : Nat} (h : i < s.size) : s.data.toList[i]? = some s[i] := by rw [List.getElem?_eq_getElem (by rw [len_list]; exact h), byteAt s i h]
theorem at_none {s : ByteArray} {i : Nat} (h : s.size ≤ i) : s.data.toList[i]? = none := List.getElem?_eq_none (by rw [len_list]; exact h)
theorem seesB_lt {s : ByteArray} {i : Nat} {c : UInt8} (h : seesB s i c = true) : i < s.size := by
  unfold seesB at h
  by_cases hl : i < s.size
  · exact hl
  · rw [at_none (by omega)] at h
    simp at h
theorem seesB_at {s : ByteArray} {i : Nat} (h : i < s.size) (c : UInt8) : seesB s i c = (s[i] == c) := by
  unfold seesB
  rw [at_some h]
  rfl
theorem seesB_end {s : ByteArray} {i : Nat} (h : s.size ≤ i) (c : UInt8) : seesB s i c = false := by
  unfold seesB
  rw [at_none h]
  rfl
/-- The reader in a block: the text, the place, the groups so far. -/
def RdAt (w : World) (U : Nat) (s : ByteArray) (i g : Nat) : Prop := w.heap[U]? = some (.cells #[.string s, .int .i64 i, .int .i64 g] 58)
section
variable {w W : World} {U : Nat} {s : ByteArray} {i g : Nat}
theorem RdAt.c0 (h : RdAt w U s i g) : w.cell? ⟨U, 0, none⟩ = some (.string s) := by rw [cell_of_heap h]; rfl
theorem RdAt.c1 (h : RdAt w U s i g) : w.cell? ⟨U, 1, none⟩ = some (.int .i64 i) := by rw [cell_of_heap h]; rfl
theorem RdAt.c2 (h : RdAt w U s i g) : w.cell? ⟨U, 2, none⟩ = some (.int .i64 g) := by rw [cell_of_heap h]; rfl
theorem RdAt.f1 (h : RdAt w U s i g) : w.frozen? ⟨U, 1, none⟩ = false := frozen_of_heap h
theorem RdAt.f2 (h : RdAt w U s i g) : w.frozen? ⟨U, 2, none⟩ = false := frozen_of_heap h
theorem RdAt.lt (h : RdAt w U s i g) : U < w.heap.size := (Array.getElem?_eq_some_iff.1 h).1
theorem RdAt.drewN (h : RdAt w U s i g) (q : Nat) : RdAt (w.drewN q) U s i g := h
theorem RdAt.set1 (h : RdAt w U s i g) (j : Nat) {v : Value} (hv : v = .int .i64 j) : RdAt (w.setCell ⟨U, 1, none⟩ v) U s j g := by
  subst hv
  unfold RdAt
  rw [heap_setCell_same h]
  rfl
theorem RdAt.set2 (h : RdAt w U s i g) (j : Nat) {v : Value} (hv : v = .int .i64 j) : RdAt (w.setCell ⟨U, 2, none⟩ v) U s i j := by
  subst hv
  unfold RdAt
  rw [heap_setCell_same h]
  rfl
theorem RdAt.below {B : Nat} (h : RdAt w U s i g) (hb : Below B w W) (hU : U < B) : RdAt W U s i g := (hb.block _ hU).trans h
theorem Kept.un (w : World) (U i : Nat) (u : Value) : Kept (fun k => k = U) w (w.setCell ⟨U, i, none⟩ u) := (Kept.refl (fun k => k = U) w).setCell (p := ⟨U, i, none⟩) (fun _ => rfl) u
theorem Kept.two {a b c : World} (h : Kept (fun k => k = U) a b) (k : Kept (fun k => k = U) b c) : Kept (fun k => k = U) a c := h.trans k (fun _ _ h => h)
end

set_option maxRecDepth 100000 in
set_option maxHeartbeats 1000000 in
theorem sees_any (U : Nat) (s : ByteArray) (i g : Nat) (c : UInt8) (w : World) (h : RdAt w U s i g) (_hs : s.size ≤ 1000000) : Calls Tryd.prog 44 #[.pointer (some ⟨U, 0, none⟩), .int .u8 c.toNat] w fun e w' => e = .returned (.bool (seesB s i c)) ∧ ∃ q, w' = w.drewN q := by
  have c0 := h.c0
  have c1 := h.c1
  have hc : c.toNat < 256 := c.toNat_lt
  clear h
  by_cases hlt : i < s.size
  · rw [seesB_at hlt]
    have hb : s[i].toNat < 256 := s[i].toNat_lt
    have hq : ((s[i].toNat : Int) == (c.toNat : Int)) = (s[i] == c) := u8_eq
    have hi : (i : Int) < s.size := by omega
    generalize (s[i] == c) = B at *
    generalize c.toNat = cN at *
    cases B
    · go_enter Tryd.func44, Tryd.ntmps44
      go_wp2
      go_quiet (fail)
      go_wp2
      go_ret
      exact ⟨rfl, _, rfl⟩
    · go_enter Tryd.func44, Tryd.ntmps44
      go_wp2
      go_quiet (fail)
      go_wp2
      go_ret
      exact ⟨rfl, _, rfl⟩
  · rw [seesB_end (by omega)]
    have hi : ¬ (i : Int) < s.size := by omega
    generalize c.toNat = cN at *
    go_enter Tryd.func44, Tryd.ntmps44
    go_wp2
    go_quiet (fail)
    go_wp2
    go_ret
    exact ⟨rfl, _, rfl⟩

/-- Behind a byte, if it stands there. -/
def overB (s : ByteArray) (i : Nat) (c : UInt8) : Nat := if seesB s i c = true then i + 1 else i
theorem overB_le {s : ByteArray} {i : Nat} (h : i ≤ s.size) (c : UInt8) : overB s i c ≤ s.size := by
  unfold overB
  split
  · rename_i h2
    have := seesB_lt h2
    omega
  · exact h
set_option maxRecDepth 100000 in
set_option maxHeartbeats 1000000 in
theorem skip_any (U : Nat) (s : ByteArray) (i g : Nat) (c : UInt8) (w : World) (h : RdAt w U s i g) (hs : s.size ≤ 1000000) : Calls Tryd.prog 33 #[.pointer (some ⟨U, 0, none⟩), .int .u8 c.toNat] w fun e w' => e = .returned (.bool (seesB s i c)) ∧ RdAt w' U s (overB s i c) g ∧ Kept (fun k => k = U) w w' := by
  have HS := sees_any U s i g c w h hs
  have HR : Hid (RdAt w U s i g) := h
  have hc : c.toNat < 256 := c.toNat_lt
  unfold overB
  clear h
  cases hB : seesB s i c with
  | false =>
    rw [hB] at HS
    generalize c.toNat = cN at *
    clear hB
    go_enter Tryd.func33, Tryd.ntmps33
    go_wp2_with (go_at_call 44; refine HS.mono ?_; clear HS; rintro e w1 ⟨rfl, q, rfl⟩)
    go_ret
    exact ⟨rfl, HR.out.drewN q, (Kept.refl _ w).drewN q⟩
  | true =>
    rw [hB] at HS
    have hlt := seesB_lt hB
    generalize c.toNat = cN at *
    clear hB
    go_enter Tryd.func33, Tryd.ntmps33
    go_wp2_with (go_at_call 44; refine HS.mono ?_; clear HS; rintro e w1 ⟨rfl, q, hw⟩; have c1 : w1.cell? ⟨U, 1, none⟩ = some (.int .i64 i) := (by rw [hw]; exact (HR.out.drewN q).c1); have f1 : w1.frozen? ⟨U, 1, none⟩ = false := (by rw [hw]; exact (HR.out.drewN q).f1); have HR1 : Hid (RdAt w1 U s i g ∧ Kept (fun k => k = U) w w1) := (by rw [hw]; exact ⟨HR.out.drewN q, (Kept.refl _ w).drewN q⟩); clear hw)
    go_ret
    exact ⟨rfl, HR1.out.1.set1 (i + 1) (by go_num), HR1.out.2.two (Kept.un _ U 1 _)⟩
end Go.Proofs.YtmbkcmfcdjccoaaDoor
