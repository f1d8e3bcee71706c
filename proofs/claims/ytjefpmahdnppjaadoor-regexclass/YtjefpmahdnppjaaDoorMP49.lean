/- slices.Repeat, of one number. -/
import Derived.Test.YtjefpmahdnppjaaDoorMP40
import Derived.Test.YtjefpmahdnppjaaDoorSz
import Derived.Laws.CopyOwn
namespace Go.Proofs.YtjefpmahdnppjaaDoor
open Go.RowKit Go.Maps

theorem infoInt2 : (Tryd.prog.info? 3).map (fun i => (i.zero, i.size, i.bytes)) = some (some (.int .i64 0), 1, 8) := by kernel_rfl
/-- A row whose first cells are filled. -/
def fillR (n N : Nat) : List Value := List.replicate n (Value.int .i64 (-1)) ++ List.replicate (N - n) (Value.int .i64 0)
theorem fillR_len {n N : Nat} (h : n ≤ N) : (fillR n N).length = N := by simp [fillR]; omega
theorem splice_fill {n N m : Nat} (h : n + m ≤ N) : splice (fillR n N) n (List.replicate m (Value.int .i64 (-1))) = fillR (n + m) N := by
  unfold splice fillR
  rw [List.take_append_of_le_length (by simp), List.take_of_length_le (by simp), List.length_replicate, List.drop_append, List.drop_of_length_le (by simp)]
  simp only [List.length_replicate, List.nil_append, List.drop_replicate]
  rw [← List.append_assoc, List.replicate_append_replicate]
  congr 2
  omega
set_option maxRecDepth 100000 in
set_option maxHeartbeats 800000 in
theorem repeat_any (N bx : Nat) (w : World) (hN : 2 ≤ N) (hN2 : N ≤ 100000) (hx : w.cell? ⟨bx, 0, none⟩ = some (.int .i64 (-1))) (hbx : bx < w.heap.size) :
    Calls Tryd.prog 27 #[.slice (some ⟨bx, 0, none⟩) 1 1, .int .i64 N] w fun e w' => e = .returned (.slice (some ⟨w.heap.size, 0, none⟩) N N) ∧ w'.heap[w.heap.size]? = some (.cells (fillR N N).toArray 3) ∧ Below w.heap.size w w' := by
  obtain ⟨i0, hi0, hz0, hz1, hz2⟩ := info_parts infoInt2
  have h9 := run_make (P := Tryd.prog) w 57 3 i0 _ Tryd.underlying57 hi0 hz0 .i64 .i64 (N : Int) (N : Int) (by omega) (Int.le_refl _) (by rw [hz2]; omega) (by omega)
  rw [Int.toNat_natCast, hz1, Nat.mul_one] at h9
  have e : madeCells (Value.int .i64 0).cells N = (fillR 0 N).toArray := by
    apply Array.toList_inj.1
    show (madeCells #[Value.int .i64 0] N).toList = _
    rw [toList_madeCells_one]
    simp [fillR]
  rw [e] at h9
  have HML : Hid (∀ W, Calls Tryd.prog 33 #[.int .u64 1, .int .u64 (N : Int)] W fun e w' => e = .returned (.tuple #[.int .u64 0, .int .u64 (N : Int)]) ∧ w' = W) := fun W => by
    have h8 := Any.bits_Mul Tryd.bmul 1 N (by omega) (by omega) W
    rw [show 1 * N / 18446744073709551616 = 0 by omega, show 1 * N % 18446744073709551616 = N by omega] at h8
    exact h8
  have hu : Tryd.prog.underlying 57 = some (.slice 3) := Tryd.underlying57
  have hsz : (Tryd.prog.info? 3).map (·.size) = some 1 := by rw [hi0]; simp [hz1]
  have hw0 : (w.alloc (.cells (fillR 0 N).toArray 3)).heap[w.heap.size]? = some (.cells (fillR 0 N).toArray 3) := heap_alloc_new _ _
  have hb0 : Below w.heap.size w (w.alloc (.cells (fillR 0 N).toArray 3)) := (Below.refl _ w).alloc (Nat.le_refl _) _
  have hx0 : (w.alloc (.cells (fillR 0 N).toArray 3)).cell? ⟨bx, 0, none⟩ = some (.int .i64 (-1)) := (hb0.cell (p := ⟨bx, 0, none⟩) hbx).trans hx
  obtain ⟨W0, hW0⟩ : ∃ W0, W0 = w.alloc (.cells (fillR 0 N).toArray 3) := ⟨_, rfl⟩
  rw [← hW0] at h9 hw0 hb0 hx0
  have HW0 := (show Hid (W0.heap[w.heap.size]? = some (.cells (fillR 0 N).toArray 3) ∧ Below w.heap.size w W0 ∧ W0.cell? ⟨bx, 0, none⟩ = some (.int .i64 (-1))) from ⟨hw0, hb0, hx0⟩)
  have HU := (show Hid (Tryd.prog.underlying 57 = some (.slice 3) ∧ (Tryd.prog.info? 3).map (·.size) = some 1) from ⟨hu, hsz⟩)
  have hNz : ((N : Int) < 0) = False := by simp
  clear hi0 hz0 hz1 hz2 e hu hsz hw0 hb0 hx0 hx hbx hW0
  go_enter Tryd.func27, Tryd.ntmps27
  go_wp2_with (first
    | (go_at_call 33; refine (HML.out _).mono ?_; rintro e w1 ⟨rfl, hw1⟩; have hw1 := hw1.symm; subst hw1)
    | (go_loud (refine wpList_copy_splice rfl (.tmp 31) (.tmp 32) 57 57 rfl 3 HU.out.1 HU.out.2 (some ⟨w.heap.size, 0, none⟩) (some ⟨bx, 0, none⟩) N N 1 1 rfl rfl w.heap.size 0 (fillR 0 N) 3 HW0.out.1 [.int .i64 (-1)] (by show 1 = min 1 N; omega) (fun _ => ⟨rfl, _, rfl, fun j v hj => by rcases j with _ | j <;> simp at hj; subst hj; exact HW0.out.2.2⟩) (by rw [fillR_len (Nat.zero_le _)]; simp; omega) (by simp [Value.oneCell']) w.heap.size w HW0.out.2.1 (Nat.le_refl _) ?_; intro w2 hg2 hb2; have HW2 : Hid (w2.heap[w.heap.size]? = some (.cells (fillR 1 N).toArray 3) ∧ Below w.heap.size w w2) := ⟨by have h9 := splice_fill (n := 0) (m := 1) (N := N) (by omega); have h8 := hg2.out; rw [show [Value.int .i64 (-1)] = List.replicate 1 (Value.int .i64 (-1)) from rfl, h9] at h8; exact h8, hb2⟩; clear hg2 hb2)))
  clear HW0 HML h9
  go_loopw [8] (fun nv wx => ∃ n : Nat, nv = .int .i64 n ∧ 1 ≤ n ∧ n ≤ N ∧ Hid (wx.heap[w.heap.size]? = some (.cells (fillR n N).toArray 3) ∧ Below w.heap.size w wx)) (fun nv _ => N - (intOf nv).toNat)
  case atStart => exact ⟨1, by simp, Nat.le_refl _, by omega, HW2⟩
  case round =>
    clear HW2
    obtain ⟨n, rfl, hn1, hn, HW⟩ := hrel
    by_cases hlt : n < N
    · have hz : (n : Int) < N := by omega
      have hne : N ≠ n := by omega
      have hg := HW.out.1
      obtain ⟨cs, hcs⟩ : ∃ cs, cs = List.replicate (min n (N - n)) (Value.int .i64 (-1)) := ⟨_, rfl⟩
      have hcl : cs.length = min n (N - n) := by rw [hcs]; simp
      have hsrc : ∀ j v, cs[j]? = some v → wr.drew.cell? ((⟨w.heap.size, 0, none⟩ : Addr).add j) = some v := by
        intro j v hj
        rw [hcs, List.getElem?_replicate] at hj
        split at hj
        · rename_i h8
          injection hj with hj
          subst hj
          rw [show (⟨w.heap.size, 0, none⟩ : Addr).add j = ⟨w.heap.size, j, none⟩ by simp [Addr.add] <;> omega, cell_of_heap (w := wr.drew) hg]
          simp only [List.getElem?_toArray, fillR]
          rw [List.getElem?_append_left (by simp; omega), List.getElem?_replicate, if_pos (by omega)]
        · cases hj
      have hone : ∀ v ∈ cs, v.oneCell' = true := by
        intro v hv
        rw [hcs] at hv
        rw [List.eq_of_mem_replicate hv]
        rfl
      have hsp : splice (fillR n N) n cs = fillR (n + cs.length) N := by
        rw [hcl]
        rw [hcs]
        exact splice_fill (by omega)
      have hm1 : 1 ≤ cs.length := by rw [hcl]; omega
      have hm2 : n + cs.length ≤ N := by rw [hcl]; omega
      have hcp := run_copy_row (P := Tryd.prog) wr.drew 57 57 3 3 w.heap.size n (N - n) (N - n) ⟨w.heap.size, 0, none⟩ n N _ _ cs HU.out.1 HU.out.2 hg hcl hsrc (by rw [List.size_toArray, fillR_len hn]; omega) hone
      obtain ⟨w4, hw4⟩ : ∃ w4, w4 = wr.drew.setRow w.heap.size ((fillR n N).toArray.toList.take n ++ cs ++ (fillR n N).toArray.toList.drop (n + cs.length)).toArray := ⟨_, rfl⟩
      have HW4 : Hid (w4.heap[w.heap.size]? = some (.cells (fillR (n + cs.length) N).toArray 3) ∧ Below w.heap.size w w4) := by
        refine ⟨?_, ?_⟩
        · rw [hw4, ← hsp]
          have h9 := setRow_heap wr.drew w.heap.size _ ((fillR n N).toArray.toList.take n ++ cs ++ (fillR n N).toArray.toList.drop (n + cs.length)).toArray 3 _ hg
          rw [h9]
          simp [splice]
        · rw [hw4]
          exact below_setRow HW.out.2.drew (Nat.le_refl _) _
      rw [← hw4] at hcp
      obtain ⟨m, hm⟩ : ∃ m, m = cs.length := ⟨_, rfl⟩
      rw [← hm] at hcp HW4 hm1 hm2
      have hcp : Sem.run Tryd.prog (Builtin.copy_ #[57, 57] 3 #[.slice (some ⟨w.heap.size, n, none⟩) (N - n) (N - n), .slice (some ⟨w.heap.size, 0, none⟩) n N]) wr.drew = .ok (.int .i64 (m : Int)) w4 := hcp
      have hmz : (m : Int) ≤ 100000 := by omega
      have hnz : (n : Int) ≤ 100000 := by omega
      clear hcs hg hcl hsrc hone hsp hw4 hm
      go_wp2_with fail
      go_region
      all_goals
        go_wp2_with fail
        go_roundw
        case rel => exact ⟨n + m, by go_num, by omega, hm2, HW4⟩
        case measure => simp [intOf]; omega
    · obtain rfl : n = N := by omega
      go_wp2_with fail
      go_ret
      exact ⟨rfl, HW.out.1, HW.out.2⟩
end Go.Proofs.YtjefpmahdnppjaaDoor
