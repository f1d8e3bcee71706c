/- Windows. -/
import Derived.Test.YtkmclgbiedbfpaaDoorK3
import Derived.Test.YtkmclgbiedbfpaaDoorSk
import Derived.Deep.RegionHeld3
import Derived.Laws.Rows
namespace Go.Proofs.YtkmclgbiedbfpaaDoor
open Go.RowKit Go.Maps Go.Shelf

theorem ret_i {a b : Int} (h : a = b) : Ending.returned (.int .i64 a) = .returned (.int .i64 b) := by rw [h]
theorem ret_u {a b : Int} (h : a = b) : Ending.returned (.int .u64 a) = .returned (.int .u64 b) := by rw [h]
theorem ret_b {a b : Bool} (h : a = b) : Ending.returned (.bool a) = .returned (.bool b) := by rw [h]

set_option maxRecDepth 100000 in
set_option maxHeartbeats 1000000 in
theorem tail_any (lead size : Nat) (w : World) (hl : lead + size ≤ 64) :
    Calls Tryd.prog 48 #[.agg #[.int .i64 lead, .int .i64 size]] w fun e w' => e = .returned (.int .i64 ((64 - lead - size : Nat) : Int)) ∧ Below w.heap.size w w' := by
  go_enter Tryd.func48, Tryd.ntmps48
  go_wp2
  go_ret
  exact ⟨ret_i (by omega), (Below.refl _ _).alloc (Nat.le_refl _) _⟩

set_option maxRecDepth 100000 in
set_option maxHeartbeats 1000000 in
theorem bias_any (width : Nat) (w : World) (h1 : 1 ≤ width) (h2 : width ≤ 12) :
    Calls Tryd.prog 45 #[.int .i64 width] w fun e w' => e = .returned (.int .u64 ((2 ^ (width - 1) - 1 : Nat) : Int)) ∧ w' = w := by
  go_enter Tryd.func45, Tryd.ntmps45
  go_wp2
  go_ret
  refine ⟨ret_u ?_, rfl⟩
  have hp : 2 ^ (width - 1) ≤ 2 ^ 12 := Nat.pow_le_pow_right (by decide) (by omega)
  have hp0 : 0 < 2 ^ (width - 1) := Nat.pow_pos (by decide)
  have : (2 : Int) ^ (width - 1) = ((2 ^ (width - 1) : Nat) : Int) := by simp
  show IntKind.u64.wrap (IntKind.u64.wrap (2 ^ (width - 1)) - 1) = _
  rw [this, IntKind.wrap_u64, IntKind.wrap_u64]
  have e12 : (2 : Nat) ^ 12 = 4096 := rfl
  omega

/-- The table that the count of noughts reads. -/
def Tab (w : World) : Prop := TabAt (Tryd.lays29_ren.g 1) Lib.deBruijn64tab w
theorem cell_lt {w : World} {p : Addr} {v : Value} (h : w.cell? p = some v) : p.block < w.heap.size := World.block_lt_of_cell? w p h
theorem Tab.below {w w' : World} {B : Nat} (h : Tab w) (hb : Below B w w') (hB : (Tryd.lays29_ren.g 1) < B) : Tab w' := fun j hj => (hb.cell (p := ⟨Tryd.lays29_ren.g 1, j, none⟩) hB).trans (h j hj)
theorem Tab.lt {w : World} (h : Tab w) : Tryd.lays29_ren.g 1 < w.heap.size := cell_lt (h 0 (by decide))

set_option maxRecDepth 100000 in
set_option maxHeartbeats 1000000 in
theorem windowOf_any (x : Nat) (w : World) (h0 : x ≠ 0) (hx : x < 18446744073709551616) (hT : Tab w) :
    Calls Tryd.prog 46 #[.int .u64 x] w fun e w' => e = .returned (.agg #[.int .i64 (lz x), .int .i64 ((64 - lz x - tz x : Nat) : Int)]) ∧ Below w.heap.size w w' := by
  have hb0 : Below w.heap.size w (w.alloc (.cells #[.int .i64 0, .int .i64 0] 63)) := (Below.refl _ _).alloc (Nat.le_refl _) _
  have hlead := Any.bits_LeadingZeros64 Tryd.lays134 (x : Int) (w.alloc (.cells #[.int .i64 0, .int .i64 0] 63)) (by omega) (by omega)
  have htail := Any7.bits_TrailingZeros64 Tryd.lays29 x hx (w.alloc (.cells #[.int .i64 0, .int .i64 0] 63)) (fun _ => hT.below hb0 hT.lt)
  have hbl : Lib.bitLen x ≤ 64 := Lib.bitLen_le x 64 (by omega) hx
  rw [Int.toNat_natCast] at hlead
  have htz := tz_lt h0 hx
  have hsum := lztz h0 hx
  have elz : min (64 - (Lib.bitLen x : Int)) 31 = (lz x : Int) := by unfold lz; omega
  change Calls _ _ _ _ fun e w' => e = .returned (.int .i64 (tz x)) ∧ _ at htail
  have hL : Calls Tryd.prog 51 #[.int .u64 x] (w.alloc (.cells #[.int .i64 0, .int .i64 0] 63)) fun e w' => e = .returned (.int .i64 (64 - (Lib.bitLen x : Int))) ∧ w' = (w.alloc (.cells #[.int .i64 0, .int .i64 0] 63)) := hlead
  have hR : Calls Tryd.prog 52 #[.int .u64 x] (w.alloc (.cells #[.int .i64 0, .int .i64 0] 63)) fun e w' => e = .returned (.int .i64 (tz x)) ∧ w' = (w.alloc (.cells #[.int .i64 0, .int .i64 0] 63)) := htail
  have hle := lz_le x
  have ELZ : Hid (min (64 - (Lib.bitLen x : Int)) 31 = (lz x : Int)) := elz
  clear hlead htail elz hT hb0
  generalize Lib.bitLen x = bl at *
  generalize lz x = L at *
  generalize tz x = T at *
  go_enter Tryd.func46, Tryd.ntmps46
  go_wp2_with (first
    | (go_at_call 51; refine hL.mono ?_; clear hL; rintro e w1 ⟨rfl, hw1⟩; subst hw1)
    | (go_at_call 52; refine hR.mono ?_; clear hR; rintro e w2 ⟨rfl, hw2⟩; subst hw2))
  refine bodyPost_ret (results_cell_row (P := Tryd.prog) rfl _ _ w.heap.size 63 _ (0, 0) _ rfl (heap_alloc_new w _) Tryd.underlying63 rfl (by kernel_rfl)) rfl ?_
  rw [ELZ.out, show 64 - (L : Int) - (T : Int) = ((64 - L - T : Nat) : Int) by omega]
  exact ⟨rfl, (Below.refl _ _).alloc (Nat.le_refl _) _⟩

set_option maxRecDepth 100000 in
set_option maxHeartbeats 1000000 in
theorem holds_any (l1 s1 l2 s2 : Nat) (w : World) (h1 : l1 + s1 ≤ 64) (h2 : l2 + s2 ≤ 64) :
    Calls Tryd.prog 47 #[.agg #[.int .i64 l1, .int .i64 s1], .agg #[.int .i64 l2, .int .i64 s2]] w fun e w' => e = .returned (.bool (decide (l1 ≤ l2 ∧ 64 - l1 - s1 ≤ 64 - l2 - s2))) ∧ Below w.heap.size w w' := by
  go_enter Tryd.func47, Tryd.ntmps47
  by_cases hg : l1 ≤ l2
  · have hgi : (l1 : Int) ≤ (l2 : Int) := by omega
    go_wp2_with fail
    have k1 : ((w.alloc (.cells #[.int .i64 l1, .int .i64 s1] 63)).alloc (.cells #[.int .i64 l2, .int .i64 s2] 63)).heap[w.heap.size]? = some (.cells #[.int .i64 l1, .int .i64 s1] 63) := heap_alloc2_old w _ _
    have k2 : ((w.alloc (.cells #[.int .i64 l1, .int .i64 s1] 63)).alloc (.cells #[.int .i64 l2, .int .i64 s2] 63)).heap[w.heap.size + 1]? = some (.cells #[.int .i64 l2, .int .i64 s2] 63) := heap_alloc2_new w _ _
    have hb : Below w.heap.size w ((w.alloc (.cells #[.int .i64 l1, .int .i64 s1] 63)).alloc (.cells #[.int .i64 l2, .int .i64 s2] 63)) := ((Below.refl _ _).alloc (Nat.le_refl _) _).alloc (by simp) _
    have hsz : ((w.alloc (.cells #[.int .i64 l1, .int .i64 s1] 63)).alloc (.cells #[.int .i64 l2, .int .i64 s2] 63)).heap.size = w.heap.size + 2 := by simp
    generalize ((w.alloc (.cells #[.int .i64 l1, .int .i64 s1] 63)).alloc (.cells #[.int .i64 l2, .int .i64 s2] 63)) = W at *
    have HC : Hid (∀ W', Below W.heap.size W W' → (W'.cell? ⟨w.heap.size, 0, none⟩ = some (.int .i64 l1) ∧ W'.cell? ⟨w.heap.size, 1, none⟩ = some (.int .i64 s1)) ∧ W'.cell? ⟨w.heap.size + 1, 0, none⟩ = some (.int .i64 l2) ∧ W'.cell? ⟨w.heap.size + 1, 1, none⟩ = some (.int .i64 s2)) := fun W' h => by
      refine ⟨⟨?_, ?_⟩, ?_, ?_⟩
      · exact (h.cell (p := ⟨w.heap.size, 0, none⟩) (by show w.heap.size < _; omega)).trans (by rw [cell_of_heap k1]; rfl)
      · exact (h.cell (p := ⟨w.heap.size, 1, none⟩) (by show w.heap.size < _; omega)).trans (by rw [cell_of_heap k1]; rfl)
      · exact (h.cell (p := ⟨w.heap.size + 1, 0, none⟩) (by show w.heap.size + 1 < _; omega)).trans (by rw [cell_of_heap k2]; rfl)
      · exact (h.cell (p := ⟨w.heap.size + 1, 1, none⟩) (by show w.heap.size + 1 < _; omega)).trans (by rw [cell_of_heap k2]; rfl)
    obtain ⟨⟨c1, c2⟩, c3, c4⟩ := HC.out W (Below.refl _ _)
    have HB : Hid (Below w.heap.size w W) := hb
    have hbs := hb.size
    have t1 := fun W => tail_any l1 s1 W h1
    have t2 := fun W => tail_any l2 s2 W h2
    have HT1 : Hid (∀ W, Calls Tryd.prog 48 #[.agg #[.int .i64 l1, .int .i64 s1]] W fun e w' => e = .returned (.int .i64 ((64 - l1 - s1 : Nat) : Int)) ∧ Below W.heap.size W w') := t1
    have HT2 : Hid (∀ W, Calls Tryd.prog 48 #[.agg #[.int .i64 l2, .int .i64 s2]] W fun e w' => e = .returned (.int .i64 ((64 - l2 - s2 : Nat) : Int)) ∧ Below W.heap.size W w') := t2
    have HD : Hid (Below W.heap.size W W.drew) := (Below.refl _ _).drew
    clear hb t1 t2 k1 k2 hsz
    go_region_held3 (fun w' => (w'.cell? ⟨w.heap.size, 0, none⟩ = some (.int .i64 l1) ∧ w'.cell? ⟨w.heap.size, 1, none⟩ = some (.int .i64 s1)) ∧ w'.cell? ⟨w.heap.size + 1, 0, none⟩ = some (.int .i64 l2) ∧ w'.cell? ⟨w.heap.size + 1, 1, none⟩ = some (.int .i64 s2))
      (first | exact ⟨⟨c1, c2⟩, c3, c4⟩ | exact ⟨⟨d1, d2⟩, d3, d4⟩ | exact ⟨⟨f1, f2⟩, f3, f4⟩)
      (first
        | (go_at_call 48; refine (HT2.out _).mono ?_; clear HT2; rintro e w8 ⟨rfl, hb8⟩; have HB8 : Hid (Below W.heap.size W w8) := HD.out.trans (hb8.mono HD.out.size); obtain ⟨⟨d1, d2⟩, d3, d4⟩ := HC.out w8 HB8.out; clear hb8)
        | (go_at_call 48; refine (HT1.out _).mono ?_; clear HT1; rintro e w9 ⟨rfl, hb9⟩; have HB9 : Hid (Below W.heap.size W w9) := HB8.out.trans (hb9.mono HB8.out.size); obtain ⟨⟨f1, f2⟩, f3, f4⟩ := HC.out w9 HB9.out; clear hb9))
    go_wp2
    go_ret
    exact ⟨ret_b (decide_eq_decide.2 (by omega)), HB.out.trans (HB9.out.mono hbs)⟩
  · have hgi : decide ((l1 : Int) ≤ (l2 : Int)) = false := by simp; omega
    go_wp2_with fail
    go_quiet (fail)
    go_wp2
    go_ret
    refine ⟨ret_b ?_, below_drewN (((Below.refl _ _).alloc (Nat.le_refl _) _).alloc (by simp) _) _⟩
    symm
    simp
    omega

end Go.Proofs.YtkmclgbiedbfpaaDoor
