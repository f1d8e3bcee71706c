/- The document's naturals: times a small number. -/
import Derived.Test.YtinfnkhghmcelaaDoorMPq
namespace Go.Proofs.YtinfnkhghmcelaaDoor
open Go.RowKit Go.Maps

set_option maxRecDepth 100000 in
set_option maxHeartbeats 400000 in
theorem refTimes_any (ds : List Nat) (a : Option Addr) (c k more : Nat) (w : World) (h : DAt w (.slice a ds.length c) ds) (hd : ∀ d ∈ ds, d < 10000) (hk : k ≤ 10000) (hm : more ≤ 4611686018427387904) (hl : ds.length ≤ 50000) :
    Calls Tryd.prog 27 #[.slice a ds.length c, .int .i64 k, .int .i64 more] w fun e w' => ∃ a' c', e = .returned (.slice a' (tmQ k ds more).length c') ∧ DRow w' w.heap.size (.slice a' (tmQ k ds more).length c') (tmQ k ds more) ∧ Below w.heap.size w w' := by
  have HA : Hid (DAt w (.slice a ds.length c) ds) := h
  have HD : Hid (∀ d ∈ ds, d < 10000) := hd
  have HTL : Hid ((tmQ k ds more).length ≤ ds.length + 5) := tmQ_len hk ds more hd hm
  obtain ⟨R, hR⟩ : ∃ R, R = tmQ k ds more := ⟨_, rfl⟩
  rw [← hR] at HTL ⊢
  have HR : Hid (R = tmQ k ds more) := hR
  clear h hd hR
  go_enter Tryd.func27, Tryd.ntmps27
  go_wp2
  go_loopw [7, 8, 9] (fun sv cv iv wr => ∃ (i : Nat) (rs : List Nat) (x : Nat) (ao : Option Addr) (co : Nat), i ≤ ds.length ∧ iv = .int .i64 i ∧ cv = .int .i64 x ∧ x ≤ 4611686018427387904 ∧ sv = .slice ao i co ∧ Hid (rs.length = i ∧ wr.ownsRow w.heap.size 3 1 (.slice ao i co) i (i64s rs) ∧ rs ++ tmQ k (ds.drop i) x = R ∧ Below w.heap.size w wr)) (fun _ _ iv _ => ds.length - (intOf iv).toNat)
  case atStart => exact ⟨0, [], more, none, 0, Nat.zero_le _, rfl, rfl, hm, rfl, rfl, World.ownsRow_nil _ _ _ _, by rw [HR.out]; rfl, Below.refl _ _⟩
  case round =>
    obtain ⟨i, rs, x, ao, co, hi, rfl, rfl, hx, rfl, hI⟩ := hrel
    obtain ⟨hrl, hrow, heq, hbl⟩ := hI.out
    have HRW : Hid (wr.ownsRow w.heap.size 3 1 (.slice ao i co) i (i64s rs)) := hrow
    have HBL : Hid (Below w.heap.size w wr) := hbl
    have hsz := hbl.size
    by_cases hlt : i < ds.length
    · obtain ⟨b1, o1, rfl, hc1⟩ := HA.out.one i hlt hbl
      rw [tmQ_drop hlt] at heq
      have hdl : ds[i] < 10000 := HD.out _ (List.getElem_mem hlt)
      obtain ⟨P, hP⟩ : ∃ P, P = ds[i] * k := ⟨_, rfl⟩
      have hPb : P ≤ 100000000 := by rw [hP]; exact Nat.mul_le_mul (Nat.le_of_lt hdl) hk
      have hPi : ((ds[i] : Nat) : Int) * (k : Int) = (P : Int) := by rw [hP, Int.natCast_mul]
      rw [← hP] at heq
      have HEQ : Hid ((rs ++ [(P + x) % 10000]) ++ tmQ k (ds.drop (i + 1)) ((P + x) / 10000) = R) := by show _ = _; rw [← heq]; simp
      have HL : Hid ((rs ++ [(P + x) % 10000]).length = i + 1) := by show _ = _; simp [hrl]
      clear hI hrow heq hbl hrl hP
      generalize ds[i] = d at *
      go_wp2_with (at_builtin; refine wpList_append_num _ rfl _ _ rfl w.heap.size ao i co rs rfl (World.ownsRow.alloc HRW.out _) wr.heap.size (((P : Int) + x) % 10000) ((P + x) % 10000) (by omega) rfl (heap_alloc_new wr _) (by omega) (by simp; omega) ?_; intro a3 c3 w3 hr3 hg3)
      go_roundw
      case rel =>
        refine ⟨i + 1, rs ++ [(P + x) % 10000], (P + x) / 10000, a3, c3, by omega, by go_num, by first | (congr 1; omega) | congr 1, by omega, rfl, HL.out, hr3, HEQ.out, ?_⟩
        exact (HBL.out.alloc hsz _).grown hg3 (by simp; omega) (fun j hj => (HRW.out.lt j hj).1)
      case measure => simp [intOf]; omega
    · obtain rfl : i = ds.length := by omega
      rw [List.drop_length, tmQ] at heq
      have HEQ : Hid (rs ++ digQ x = R) := heq
      have HRL : Hid (rs.length = ds.length) := hrl
      clear hI hrow heq hbl hrl hlt
      go_wp2
      go_loopw [7, 8] (fun sv cv wu => ∃ (n : Nat) (rs : List Nat) (x : Nat) (ao : Option Addr) (co : Nat), n ≤ 100000 ∧ cv = .int .i64 x ∧ x ≤ 4611686018427387904 ∧ sv = .slice ao n co ∧ Hid (rs.length = n ∧ wu.ownsRow w.heap.size 3 1 (.slice ao n co) n (i64s rs) ∧ rs ++ digQ x = R ∧ Below w.heap.size w wu)) (fun _ cv _ => (intOf cv).toNat)
      case atStart => exact ⟨ds.length, rs, x, ao, co, by omega, rfl, hx, rfl, HRL.out, HRW.out, HEQ.out, HBL.out⟩
      case round =>
        clear HRW HBL HEQ HRL hsz hx
        obtain ⟨n, rs, x, ao, co, hn, rfl, hx, rfl, hI⟩ := hrel
        obtain ⟨hrl, hrow, heq, hbl⟩ := hI.out
        have HRW : Hid (wr.ownsRow w.heap.size 3 1 (.slice ao n co) n (i64s rs)) := hrow
        have HBL : Hid (Below w.heap.size w wr) := hbl
        have hsz := hbl.size
        by_cases hpos : 0 < x
        · have hxi : (0 : Int) < x := by omega
          rw [digQ_pos hpos] at heq
          have hTL := HTL.out
          have hnb : n + 1 ≤ ds.length + 5 := by
            rw [← heq, List.length_append, List.length_cons, hrl] at hTL
            omega
          have HEQ : Hid ((rs ++ [x % 10000]) ++ digQ (x / 10000) = R) := by show _ = _; rw [← heq]; simp
          have HL : Hid ((rs ++ [x % 10000]).length = n + 1) := by show _ = _; simp [hrl]
          clear hI hrow heq hbl hrl hTL
          go_wp2_with (at_builtin; refine wpList_append_num _ rfl _ _ rfl w.heap.size ao n co rs rfl (World.ownsRow.alloc HRW.out _) wr.heap.size ((x : Int) % 10000) (x % 10000) (by omega) rfl (heap_alloc_new wr _) (by omega) (by simp; omega) ?_; intro a3 c3 w3 hr3 hg3)
          go_roundw
          case rel =>
            refine ⟨n + 1, rs ++ [x % 10000], x / 10000, a3, c3, by omega, by first | (congr 1; omega) | congr 1, by omega, rfl, HL.out, hr3, HEQ.out, ?_⟩
            exact (HBL.out.alloc hsz _).grown hg3 (by simp; omega) (fun j hj => (HRW.out.lt j hj).1)
          case measure => simp [intOf]; omega
        · obtain rfl : x = 0 := by omega
          rw [digQ_zero, List.append_nil] at heq
          subst heq
          subst hrl
          clear hI hrow hbl
          go_wp2
          go_ret
          exact ⟨_, _, rfl, HRW.out, HBL.out⟩
end Go.Proofs.YtinfnkhghmcelaaDoor
