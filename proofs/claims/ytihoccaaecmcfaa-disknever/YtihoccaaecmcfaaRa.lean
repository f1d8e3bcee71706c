/- Numbers taken into a range; bytes that are lent, and looked at again. -/
import Derived.Test.YtihoccaaecmcfaaR9
import Derived.Test.YtihoccaaecmcfaaWj
namespace Go.Proofs.Ytihoccaaecmcfaa
open Go.RowKit Go.Maps Go.Sort

theorem ret_int {a b : Int} (h : a = b) : Ending.returned (.int .i64 a) = .returned (.int .i64 b) := by rw [h]
theorem emod_of_tmod (n m : Int) : n % m = (n.tmod m) % m := by
  have h := Int.mul_tdiv_add_tmod n m
  conv => lhs; rw [← h, Int.add_comm]
  rw [Int.add_mul_emod_self_left]

set_option maxRecDepth 100000 in
set_option maxHeartbeats 1000000 in
theorem within_any (n m : Int) (w : World) (hm : 1 ≤ m) (hm' : m ≤ 1000000) (_hn : -9223372036854775808 ≤ n) (_hn' : n ≤ 9223372036854775807) :
    Calls Try.prog 25 #[.int .i64 n, .int .i64 m] w fun e w' => e = .returned (.int .i64 (n % m)) ∧ w' = w := by
  have hmz : m ≠ 0 := by omega
  have h1 : -m < Int.tmod n m := by
    have := Int.lt_tmod_of_pos n (show 0 < m by omega); omega
  have h2 : Int.tmod n m < m := Int.tmod_lt_of_pos n (by omega)
  by_cases h : Int.tmod n m < 0
  · go_enter Try.func25, Try.ntmps25
    go_wp2
    go_ret
    have e : n.tmod m + m = n % m := by
      have e2 := Int.add_mul_emod_self_left (n.tmod m) m 1
      rw [Int.mul_one] at e2
      rw [emod_of_tmod, ← e2]
      exact (Int.emod_eq_of_lt (by omega) (by omega)).symm
    exact ⟨ret_int e, rfl⟩
  · go_enter Try.func25, Try.ntmps25
    go_wp2
    go_ret
    have e : n.tmod m = n % m := by
      rw [emod_of_tmod]
      exact (Int.emod_eq_of_lt (by omega) (by omega)).symm
    exact ⟨ret_int e, rfl⟩

theorem row_room {w : World} {base n size g c : Nat} {e : TypeId} {xs : List Value} (ho : w.ownsRow base e size (.slice (some ⟨g, 0, none⟩) n c) n xs) : n ≤ c ∧ c ≤ maxLen := by
  rcases ho.2 with ⟨e, _⟩ | ⟨g', cap, cur, e, _, _, h1, h2, _⟩
  · cases e
  · cases e
    exact ⟨h1, h2⟩

def marks : List UInt8 := [201, 202, 203, 204]

set_option maxRecDepth 100000 in
set_option maxHeartbeats 1000000 in
theorem lend_any (bv : Value) (bs : List UInt8) (w : World) (hb : BytesAt w bv bs) (hl : bs.length ≤ 1000000) :
    Calls Try.prog 58 #[bv] w fun e w' => ∃ g c, e = .returned (.slice (some ⟨g, 0, none⟩) bs.length c) ∧ w'.ownsRow w.heap.size 5 1 (.slice (some ⟨g, 0, none⟩) (bs.length + 4) c) (bs.length + 4) (byteVals (bs ++ marks)) ∧ Below w.heap.size w w' := by
  obtain ⟨ba, bc, rfl, hbc1, hbc2⟩ := hb.shape
  have HB : Hid (∀ w1, Below w.heap.size w w1 → BytesAt w1 (.slice ba bs.length bc) bs) := fun w1 hb1 => hb.below hb1
  have HA : Hid (Below w.heap.size w (w.alloc (.cells #[] 5))) := (Below.refl _ w).alloc (Nat.le_refl _) _
  have HM : Hid ((w.alloc (.cells #[] 5)).ownsRow w.heap.size 5 1 (.slice (some ⟨w.heap.size, 0, none⟩) 0 0) 0 []) := World.ownsRow_made w #[] 0 (Nat.le_refl _) (Nat.zero_le _) rfl
  have HX : Hid (∀ w1, (w.alloc (.cells #[] 5)).grownBy w1 (Value.slice (some ⟨w.heap.size, 0, none⟩) 0 0).ownBlock → Below w.heap.size w w1) := fun w1 hg1 => HA.out.grown hg1 (by simp) (fun k hk => by simp [Value.ownBlock] at hk; omega)
  clear hb
  go_enter Try.func58, Try.ntmps58
  go_wp2_with (first
    | (at_builtin; refine wpList_append_bytes _ rfl _ _ rfl w.heap.size _ 0 [] rfl HM.out _ bs rfl (HB.out _ HA.out) (by omega) (by simp) ?_; intro v1 w1 hr1 hg1; have hb1 := HX.out _ hg1; have hs1 := hb1.size; rw [Nat.zero_add, List.nil_append] at hr1; obtain ⟨a1, c1, rfl⟩ := slice_of_row hr1)
    | (at_builtin; refine wpList_append_bytes _ rfl _ _ rfl w.heap.size _ bs.length (byteVals bs) rfl (hr1.alloc _) _ marks rfl (Or.inr ⟨⟨w1.heap.size, 0, none⟩, 4, rfl, by decide, by decide, World.news_of_block (cs := #[.int .u8 201, .int .u8 202, .int .u8 203, .int .u8 204]) (t := 5) (fr := (0, 0)) (heap_alloc_new w1 _)⟩) (by simp [marks]; omega) (by simp; omega) ?_; intro v2 w2 hr2 hg2; obtain ⟨g2, c2, rfl, hge, hlt⟩ := hr2.form (by simp [marks]); obtain ⟨hc2, hc2'⟩ := row_room hr2; have hb2 := below_grown hb1 _ hr1 hg2; have e4 : marks.length = 4 := rfl; rw [e4, ← byteVals_append] at hr2; rw [e4] at hc2 ⊢; have hc3 : bs.length ≤ c2 := (by omega); have hc4 : (bs.length : Int) ≤ (c2 : Int) := (by omega)))
  go_ret
  exact ⟨g2, c2, rfl, hr2, hb2⟩

set_option maxRecDepth 100000 in
set_option maxHeartbeats 1000000 in
theorem intact_any (g c : Nat) (bv : Value) (bs : List UInt8) (base : Nat) (w : World) (ho : w.ownsRow base 5 1 (.slice (some ⟨g, 0, none⟩) (bs.length + 4) c) (bs.length + 4) (byteVals (bs ++ marks))) (hb : BytesAt w bv bs) (hl : bs.length ≤ 1000000) :
    Calls Try.prog 59 #[.slice (some ⟨g, 0, none⟩) bs.length c, bv] w fun e w' => e = .returned (.bool true) ∧ Kept (fun k => k = g) w w' := by
  obtain ⟨ba, bc, rfl, hbc1, hbc2⟩ := hb.shape
  have hA : (convert 31 9 (.slice ba bs.length bc)).run Try.prog w = .ok (.string ⟨bs.toArray⟩) w := BytesAt.str hb
  have hlm : (bs ++ marks).length = bs.length + 4 := by simp [marks]
  have hB : (convert 31 9 (.slice (some ⟨g, 0, none⟩) (bs.length + 4) c)).run Try.prog w = .ok (.string ⟨(bs ++ marks).toArray⟩) w := strOf_row (base := base) (by rw [hlm]; exact ho)
  obtain ⟨hc1, hc2⟩ := row_room ho
  have hc3 : ((bs.length + 4 : Nat) : Int) ≤ (c : Int) := by omega
  have hc4 : (bs.length : Int) + 4 ≤ (c : Int) := by omega
  obtain ⟨cur, hcur, hcs⟩ : ∃ cur, w.heap[g]? = some (.cells cur 5 (0, 0)) ∧ cur.size = c := by
    rcases ho.2 with ⟨e, _⟩ | ⟨g', cap, cur, e, _, hh, _, _, h3, _⟩
    · cases e
    · cases e
      exact ⟨cur, hh, by omega⟩
  clear ho hb
  go_enter Try.func59, Try.ntmps59
  go_wp2
  go_loopw [7] (fun i wr => ∃ k : Nat, ∃ cr : Array Value, k ≤ bs.length + 4 ∧ i = .int .i64 k ∧ wr.heap[g]? = some (.cells cr 5 (0, 0)) ∧ cr.size = c ∧ Kept (fun k => k = g) w wr) (fun i _ => bs.length + 4 - (intOf i).toNat)
  case atStart => exact ⟨0, cur, Nat.zero_le _, rfl, hcur, hcs, Kept.refl _ _⟩
  case round =>
    obtain ⟨k, cr, hk, rfl, hcr, hcs', hkk⟩ := hrel
    by_cases hlt : k < bs.length + 4
    · have q0 : wr.cell? ⟨g, k, none⟩ = some cr[k]! := by
        rw [cell_of_heap hcr]
        have hkc : k < cr.size := by omega
        simp [hkc]
      have q1 : wr.frozen? ⟨g, k, none⟩ = false := frozen_of_heap hcr
      have hlt' : (k : Int) < (bs.length : Int) + 4 := by omega
      go_wp2
      go_round
      case rel => exact ⟨k + 1, _, by omega, by go_num, heap_setCell_same hcr _, by simpa using hcs', hkk.setCell (p := ⟨g, k, none⟩) (fun _ => rfl) _⟩
      case measure => simp [intOf]; omega
    · have e : k = bs.length + 4 := by omega
      subst e
      go_wp2
      go_ret
      refine ⟨ret_bool ?_, hkk⟩
      rw [ByteArray.toList_eq]
      simp [marks]

end Go.Proofs.Ytihoccaaecmcfaa
