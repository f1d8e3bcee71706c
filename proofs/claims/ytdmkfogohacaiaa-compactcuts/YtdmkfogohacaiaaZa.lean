/- The document's inside, wide, floor, Floor; Ints; SpoilInts. -/
import Derived.Test.YtdmkfogohacaiaaYx
import Derived.Test.YtdmkfogohacaiaaYu
namespace Go.Proofs.Ytdmkfogohacaiaa
open Go.RowKit Go.Maps

set_option maxRecDepth 100000 in
set_option maxHeartbeats 1000000 in
theorem refInside (t : Int) (w : World) : Calls Try.prog 17 #[.int .i64 t] w fun e w' => e = .returned (.int .i64 (cl t)) ∧ w' = w := by
  by_cases h1 : t < -9007199254740992
  · have e : cl t = -9007199254740992 := by unfold cl; omega
    rw [e]
    go_enter Try.func17, Try.ntmps17
    go_wp2
    go_ret
    exact ⟨rfl, rfl⟩
  · by_cases h2 : 9007199254740992 < t
    · have e : cl t = 9007199254740992 := by unfold cl; omega
      rw [e]
      go_enter Try.func17, Try.ntmps17
      go_wp2
      go_ret
      exact ⟨rfl, rfl⟩
    · have e : cl t = t := by unfold cl; omega
      rw [e]
      go_enter Try.func17, Try.ntmps17
      go_wp2
      go_ret
      exact ⟨rfl, rfl⟩
set_option maxHeartbeats 1000000 in
theorem refWide (m : Int) (w : World) : Calls Try.prog 16 #[.int .i64 m] w fun e w' => e = .returned (.int .i64 (max m 1)) ∧ w' = w := by
  by_cases h1 : m < 1
  · have e : max m 1 = 1 := by omega
    rw [e]
    go_enter Try.func16, Try.ntmps16
    go_wp2
    go_ret
    exact ⟨rfl, rfl⟩
  · have e : max m 1 = m := by omega
    rw [e]
    go_enter Try.func16, Try.ntmps16
    go_wp2
    go_ret
    exact ⟨rfl, rfl⟩

set_option maxRecDepth 100000 in
set_option maxHeartbeats 1000000 in
theorem refFloor0 (t m : Int) (w : World) (ht : -9007199254740992 ≤ t ∧ t ≤ 9007199254740992) (hm : 1 ≤ m ∧ m ≤ 9223372036854775807) :
    Calls Try.prog 19 #[.int .i64 t, .int .i64 m] w fun e w' => e = .returned (.int .i64 (t - t % m)) ∧ w' = w := by
  have hmz : m ≠ 0 := by omega
  have h1 : -m < Int.tmod t m := by
    have := Int.lt_tmod_of_pos t (show 0 < m by omega); omega
  have h2 : Int.tmod t m < m := Int.tmod_lt_of_pos t (by omega)
  have h3 := fl_lo t m ht hm
  have h4 := Int.emod_nonneg t hmz
  by_cases h : Int.tmod t m < 0
  · have e : t.tmod m + m = t % m := by
      have e2 := Int.add_mul_emod_self_left (t.tmod m) m 1
      rw [Int.mul_one] at e2
      rw [emod_of_tmod, ← e2]
      exact (Int.emod_eq_of_lt (by omega) (by omega)).symm
    have hw1 : IntKind.i64.wrap (t.tmod m + m) = t % m := by rw [IntKind.wrap_i64]; omega
    have hw2 : IntKind.i64.wrap (t - t % m) = t - t % m := by rw [IntKind.wrap_i64]; omega
    have HE : Hid _ := e
    clear e h3
    go_enter Try.func19, Try.ntmps19
    go_wp2
    go_ret
    exact ⟨ret_int (by have := HE.out; omega), rfl⟩
  · have e : t.tmod m = t % m := by
      rw [emod_of_tmod]
      exact (Int.emod_eq_of_lt (by omega) (by omega)).symm
    have hw2 : IntKind.i64.wrap (t - t.tmod m) = t - t.tmod m := by rw [IntKind.wrap_i64]; omega
    have HE : Hid _ := e
    clear e h3
    go_enter Try.func19, Try.ntmps19
    go_wp2
    go_ret
    exact ⟨ret_int (by have := HE.out; omega), rfl⟩

set_option maxRecDepth 100000 in
set_option maxHeartbeats 1000000 in
theorem refFloor (t m : Int) (w : World) (hm : m ≤ 9223372036854775807) :
    Calls Try.prog 9 #[.int .i64 t, .int .i64 m] w fun e w' => e = .returned (.int .i64 (flF t m)) ∧ w' = w := by
  have hw := fun W => refInside t W
  have hv := fun W => refWide m W
  have hbe := fun W => refFloor0 (cl t) (max m 1) W (cl_in t) (by omega)
  unfold flF
  generalize cl t = u at *
  generalize max m 1 = n at *
  go_enter Try.func9, Try.ntmps9
  go_wp2_with (first
    | (go_at_call 17; refine (hw _).mono ?_; clear hw; rintro e w' ⟨rfl, rfl⟩)
    | (go_at_call 16; refine (hv _).mono ?_; clear hv; rintro e w' ⟨rfl, rfl⟩)
    | (go_at_call 19; refine (hbe _).mono ?_; clear hbe; rintro e w' ⟨rfl, rfl⟩))
  go_ret
  exact ⟨rfl, rfl⟩

set_option maxRecDepth 100000 in
set_option maxHeartbeats 2000000 in
/-- Two slices that read alike are alike. -/
theorem ints_same (v u : Value) (l : List Int) (w : World) (h : InAt w v l) (h2 : InAt w u l) (hl : l.length ≤ 1000000) :
    Calls Try.prog 6 #[v, u] w fun e w' => e = .returned (.bool true) ∧ ∃ q, w' = w.drewN q := by
  obtain ⟨a, c, rfl, -⟩ := id h
  obtain ⟨a2, c2, rfl, -⟩ := id h2
  have HL : Hid (InAt w (.slice a l.length c) l) := h
  have HM : Hid (InAt w (.slice a2 l.length c2) l) := h2
  clear h h2
  go_enter Try.func6, Try.ntmps6
  go_wp2
  go_loopw [5] (fun i wr => ∃ k q : Nat, k ≤ l.length ∧ i = .int .i64 k ∧ wr = w.drewN q) (fun i _ => l.length - (intOf i).toNat)
  case atStart => exact ⟨0, 0, Nat.zero_le _, rfl, rfl⟩
  case round =>
    obtain ⟨k, q, hk, rfl, rfl⟩ := hrel
    by_cases hlt : k < l.length
    · obtain ⟨b, o, e, hone⟩ := InAt.one HL.out k hlt
      subst e
      have g0 := hone (w.drewN q) (below_drewN (Below.refl _ _) q)
      obtain ⟨b2, o2, e, hone2⟩ := InAt.one HM.out k hlt
      subst e
      have g1 := hone2 (w.drewN q) (below_drewN (Below.refl _ _) q)
      generalize l[k] = x at *
      generalize hw : w.drewN q = wq at *
      have HW : Hid (w.drewN q = wq) := hw
      clear hone hone2 hw
      have hkl : (k : Int) < (l.length : Int) := by omega
      go_wp2_with fail
      go_quiet (fail)
      go_wp2
      go_roundw
      case rel => exact ⟨k + 1, q + nq, by omega, by go_num, by rw [← HW.out, drewN_drewN]⟩
      case measure => simp [intOf]; omega
    · have hkl : ¬ (k : Int) < (l.length : Int) := by omega
      go_wp2
      go_ret
      exact ⟨rfl, q, rfl⟩

theorem row_slot {w : World} {base e n g c : Nat} {xs : List Value} (h : w.ownsRow base e 1 (.slice (some ⟨g, 0, none⟩) n c) n xs) {j : Nat} (hj : j < n) : (∃ u, w.cell? ⟨g, j, none⟩ = some u) ∧ w.frozen? ⟨g, j, none⟩ = false := row_cell h (by omega)

set_option maxRecDepth 100000 in
set_option maxHeartbeats 2000000 in
theorem spoil_any (a : Option Addr) (n c : Nat) (xs : List Value) (base : Nat) (w : World) (h : w.ownsRow base 3 1 (.slice a n c) n xs) (hb : base ≤ w.heap.size) (hn : n ≤ 1000) :
    Calls Try.prog 10 #[.slice a n c] w fun e w' => e = .returned (.tuple #[]) ∧ Below base w w' := by
  have HR : Hid (w.ownsRow base 3 1 (.slice a n c) n xs) := h
  clear h
  go_enter Try.func10, Try.ntmps10
  go_wp2
  go_loopw [2] (fun i wr => ∃ (k : Nat) (ys : List Value), k ≤ n ∧ i = .int .i64 k ∧ Hid (wr.ownsRow base 3 1 (.slice a n c) n ys) ∧ Hid (Below base w wr)) (fun i _ => n - (intOf i).toNat)
  case atStart => exact ⟨0, xs, Nat.zero_le _, rfl, HR, Below.refl _ _⟩
  case round =>
    obtain ⟨k, ys, hk, rfl, hrow, hbel⟩ := hrel
    have hsw := hbel.out.size
    by_cases hlt : k < n
    · obtain ⟨g, c9, cur, e9, hg, hh⟩ := row_some hrow.out (by omega)
      cases e9
      obtain ⟨⟨u, r1⟩, r2⟩ := row_slot hrow.out hlt
      have hkl : (k : Int) < (n : Int) := by omega
      clear hh
      go_wp2
      go_roundw
      case rel => exact ⟨k + 1, _, by omega, by go_num, ownsRow_set hrow.out rfl (i := k) _, hbel.out.setCell hg _⟩
      case measure => simp [intOf]; omega
    · have hkl : ¬ (k : Int) < (n : Int) := by omega
      go_wp2_with fail
      go_loopw [0, 3] (fun v i wz => ∃ (k m : Nat) (a c : _) (zs : List Value), k ≤ 10 ∧ m = n + k ∧ i = .int .i64 k ∧ v = .slice a m c ∧ Hid (wz.ownsRow base 3 1 (.slice a m c) m zs) ∧ Hid (Below base w wz)) (fun _ i _ => 10 - (intOf i).toNat)
      case atStart => exact ⟨0, n, a, c, ys, by omega, rfl, rfl, rfl, hrow, hbel⟩
      case round =>
        clear hrow hbel hsw
        obtain ⟨k, m, a, c, zs, hk, rfl, rfl, rfl, hrow, hbel⟩ := hrel
        have hsw := hbel.out.size
        by_cases hlt : k < 10
        · have hkl : (k : Int) < 10 := by omega
          have hmm : n + k + 1 ≤ 1000000 := by omega
          go_wp2_with (at_builtin; refine wpList_append_row appIn _ rfl _ _ rfl base _ (n + k) zs rfl (World.ownsRow.alloc hrow.out _) _ 1 [.int .i64 (-78)] rfl (RowAt.of_block (cs := #[.int .i64 (-78)]) (heap_alloc_new wr _) rfl (by decide)) (by simp [Value.oneCell']) hmm (by simp; omega) ?_; intro a5 c5 w5 hr5 hg5 _)
          go_roundw
          case rel => exact ⟨k + 1, n + k + 1, a5, c5, _, by omega, by omega, by go_num, rfl, hr5, (hbel.out.alloc (by omega) _).grown hg5 (by simp; omega) (fun j hj => (World.ownsRow.lt hrow.out j hj).1)⟩
          case measure => simp [intOf]; omega
        · have hkl : ¬ (k : Int) < 10 := by omega
          go_wp2
          go_end0
          exact ⟨rfl, hbel.out⟩

end Go.Proofs.Ytdmkfogohacaiaa
