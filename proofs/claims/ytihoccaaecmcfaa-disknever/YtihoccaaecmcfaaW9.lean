/- A directory's names that begin so, rising. -/
import Derived.Test.YtihoccaaecmcfaaW8
import Derived.Maps.RangeWalk
import Derived.Sort.KeysCollected
import Derived.Sort.OwnSorted
namespace Go.Proofs.Ytihoccaaecmcfaa
open Go.RowKit Go.Maps Go.Sort
open Go.WideMaps Go.WideElems

theorem info9 : (Try.prog.info? 9).map (fun i => (i.zero, i.size, i.bytes)) = some (some (.string ⟨#[]⟩), 1, 16) := by kernel_rfl

theorem fileElem_shape {v : Value} {y : DataW Unit × List MemPlace} (h : fileElem v = some y) : ∃ c, v = .pointer c := by
  unfold fileElem at h
  split at h
  · exact ⟨_, rfl⟩
  · exact ⟨_, rfl⟩
  · cases h

/-- The names of a directory that begin with p, rising. -/
def risen (D : DataW Unit) (p : List UInt8) : List (List UInt8) := ((strKeys D).filter fun x => Lib.hasPrefix x p).mergeSort leB

set_option maxRecDepth 100000 in
set_option maxHeartbeats 1000000 in
theorem rising_any (b n : Nat) (p : ByteArray) (D0 : DataW Unit) (w : World) (hown : w.ownsMap Try.prog 9 fileElem b n D0) (hn : n < 1000000000) :
    Calls Try.prog 51 #[.map (some b), .string p] w fun e w' => ∃ v, e = .returned v ∧
      w'.ownsRow w.heap.size 9 1 v (risen D0 p.data.toList).length ((risen D0 p.data.toList).map encStr) ∧ Below w.heap.size w w' := by
  obtain ⟨i0, hi, hz0, hz1, hz2⟩ := info_parts info9
  have hbl := hown.lt
  have hsz := hown.size_le
  go_enter Try.func51, Try.ntmps51
  go_wp2_with (at_range; refine wpList_range_own _ rfl _ 65 rfl 9 76 law9 Try.underlying65 _ b n _ rfl hown ?_; intro w0 hrg0 hg0 hs0)
  go_frame
  go_loopw [5] (fun v wr => ∃ (left : Lit → Bool) (cnt : Nat) (ss : List (List UInt8)), wr.ranges Try.prog 9 fileElem b w.heap.size n D0 left cnt ∧ ss.length + cnt ≤ Maps.size D0 ∧
      wr.ownsRow w.heap.size 9 1 v (ss.filter fun x => Lib.hasPrefix x p.data.toList).length ((ss.filter fun x => Lib.hasPrefix x p.data.toList).map encStr) ∧ Collected D0 left ss ∧ Below w.heap.size w wr)
    (fun _ wr => wr.rangeLeft b w.heap.size)
  case atStart =>
    exact ⟨_, _, [], hrg0, by simp, World.ownsRow_nil _ _ _ _, Collected.start D0, (Below.refl _ _).grown hg0 (Nat.le_refl _) (fun j hj => by cases hj)⟩
  case round =>
    obtain ⟨left, cnt, ss, hrg, hcs, hrow, hC, hnx⟩ := hrel
    have hfl : (ss.filter fun x => Lib.hasPrefix x p.data.toList).length ≤ ss.length := List.length_filter_le _ _
    go_wp2_with (at_next; refine wpList_next_ranges _ rfl _ rfl 9 law9 fileElem encStr Value.pointer (fun key kl hk => by obtain ⟨x, hx, _⟩ := Maps.keyOf_str Try.underlying9 hk; exact ⟨x, hx⟩) (fun v y hv => fileElem_shape hv) b w.heap.size n _ _ _ rfl hrg ?_ ?_)
    · intro hc0 hl0
      have hperm : ((ss.filter fun x => Lib.hasPrefix x p.data.toList).mergeSort leB) = risen D0 p.data.toList := mergeSort_of_perm ((hC.perm hown law9 Try.underlying9 hl0).filter _)
      have hlen : (risen D0 p.data.toList).length = (ss.filter fun x => Lib.hasPrefix x p.data.toList).length := by rw [← hperm]; simp
      have HP : Hid (((ss.filter fun x => Lib.hasPrefix x p.data.toList).mergeSort leB) = risen D0 p.data.toList) := hperm
      have HL : Hid ((risen D0 p.data.toList).length = (ss.filter fun x => Lib.hasPrefix x p.data.toList).length) := hlen
      clear hperm hlen
      generalize (ss.filter fun x => Lib.hasPrefix x p.data.toList) = ts at *
      rcases hrow.2 with ⟨rfl, hnil⟩ | ⟨g, cap, cur, rfl, hbase, hb, h1, h2, h3, h4⟩
      · have ht : ts = [] := List.eq_nil_of_length_eq_zero hnil
        subst ht
        go_wp2_with (go_at_call 73; refine (Try.slices_Sort_string_none _ _ _).mono ?_; rintro e w' ⟨rfl, rfl⟩)
        go_ret
        have hr : risen D0 p.data.toList = [] := List.eq_nil_of_length_eq_zero HL.out
        refine ⟨_, rfl, ?_, hnx⟩
        rw [hr]
        exact World.ownsRow_nil _ _ _ _
      · have hH : Holds encStr wr g 0 ts.toArray := holds_of_block hb (by simpa using h4)
        have hgl : g < wr.heap.size := (Array.getElem?_eq_some_iff.1 hb).1
        have hc := Try.slices_Sort_string g 0 cap ts wr hH hgl (by omega)
        clear hH
        go_wp2_with (go_at_call 73; refine hc.mono ?_; rintro e w' ⟨rfl, nn, os, rfl⟩)
        go_ret
        refine ⟨_, rfl, ?_, hnx.grown (grownBy_sorted _) hnx.size (fun j hj => by cases hj; exact hbase)⟩
        have hr := ownsRow_sorted (os := os) (n := nn) (e := 9) (ss := ts) (ts := ts.mergeSort leB) (by simp) hbase hb h1 h2 h3
        rw [HL.out, ← HP.out]
        exact hr
    · intro x c kl yd yp w2 cnt2 hkey hlk hv hat hrg2 hlt hg2 hs2 hen
      obtain ⟨x', ex, rfl, _⟩ := Maps.keyOf_str Try.underlying9 hkey
      obtain rfl : x = x' := encStr_inj ex
      have hrow2 := hrow.kept hg2 (Or.inr (row_ne_iter hrow hrg).symm)
      have hC2 := hC.step hlk hat
      have hw2 : w.heap.size ≤ w2.heap.size := by have := hnx.size; omega
      clear hs2 hv ex hkey
      have HLT : Hid (cnt2 < cnt) := hlt
      cases hpre : Lib.hasPrefix x p.data.toList
      · have HF : Hid ((ss ++ [x]).filter (fun x => Lib.hasPrefix x p.data.toList) = ss.filter fun x => Lib.hasPrefix x p.data.toList) := by show _ = _; rw [List.filter_append]; simp [hpre]
        go_wp2_with (go_at_call 72; refine (Try.strings_HasPrefix _ _ _).mono ?_; rintro e w2 ⟨rfl, rfl⟩)
        go_roundw
        case rel => exact ⟨_, cnt2, ss ++ [x], hrg2, by simp; omega, by rw [HF.out]; exact hrow2, hC2, hnx.grown hg2 hnx.size (fun j hj => by cases hj; exact Nat.le_refl _)⟩
        case measure => rw [hrg2.left_eq, hrg.left_eq]; exact HLT.out
      · have HF : Hid ((ss ++ [x]).filter (fun x => Lib.hasPrefix x p.data.toList) = (ss.filter fun x => Lib.hasPrefix x p.data.toList) ++ [x]) := by show _ = _; rw [List.filter_append]; simp [hpre]
        go_wp2_with (first | (go_at_call 72; refine (Try.strings_HasPrefix _ _ _).mono ?_; rintro e w2 ⟨rfl, rfl⟩) | (at_builtin; refine wpList_append_own _ rfl _ _ 55 rfl w.heap.size 9 i0 (.string ⟨#[]⟩) 1 16 Try.underlying55 hi hz0 hz1 hz2 rfl (by decide) _ _ _ rfl (hrow2.alloc _) ⟨w2.heap.size, 0, none⟩ 1 1 [encStr x] rfl rfl (cell_one_new _ _ _) (by simp [Value.oneCell', encStr]) (by unfold maxLen at *; omega) (by omega) (by simp; omega) ?_; intro v' w3 hown' hg3 hnil3; go_frame))
        have hrg3 := (hrg2.alloc _).kept hg3 (row_ne_low hrow2 hbl) (row_ne_iter hrow2 hrg2)
        go_roundw
        case rel =>
          refine ⟨_, cnt2, ss ++ [x], hrg3, by simp; omega, by rw [HF.out]; simpa using hown', hC2, ?_⟩
          exact ((hnx.grown hg2 hnx.size (fun j hj => by cases hj; exact Nat.le_refl _)).alloc hw2 _).grown hg3 (by simp; omega) (fun j hj => (hrow2.lt j hj).1)
        case measure => rw [hrg3.left_eq, hrg.left_eq]; exact HLT.out

end Go.Proofs.Ytihoccaaecmcfaa
