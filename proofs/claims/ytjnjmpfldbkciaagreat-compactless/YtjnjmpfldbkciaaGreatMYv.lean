/- Texts that belong together. -/
import Derived.Test.YtjnjmpfldbkciaaGreatYa
import Derived.Test.YtjnjmpfldbkciaaGreatMYq
/- within, below, Floor. -/
namespace Go.Proofs.YtjnjmpfldbkciaaGreat
open Go.RowKit Go.Shelf Go.Maps

/-- A time within all times. -/
def cl (t : Int) : Int := min (max t (-9007199254740992)) 9007199254740992
def flF (t w : Int) : Int := cl t - cl t % max w 1
theorem cl_in (t : Int) : -9007199254740992 ≤ cl t ∧ cl t ≤ 9007199254740992 := by unfold cl; omega
theorem emod_of_tmod (n m : Int) : n % m = (n.tmod m) % m := by
  have h := Int.mul_tdiv_add_tmod n m
  conv => lhs; rw [← h, Int.add_comm]
  rw [Int.add_mul_emod_self_left]

set_option maxRecDepth 100000 in
set_option maxHeartbeats 1000000 in
theorem within_any (t : Int) (w : World) : Calls Tryz.prog 54 #[.int .i64 t] w fun e w' => e = .returned (.int .i64 (cl t)) ∧ w' = w := by
  unfold cl
  go_enter Tryz.func54, Tryz.ntmps54
  go_wp2
  go_ret
  exact ⟨rfl, rfl⟩

theorem fl_lo (t w : Int) (ht : -9007199254740992 ≤ t ∧ t ≤ 9007199254740992) (hw : 1 ≤ w ∧ w ≤ 9223372036854775807) : -9223372036854775808 ≤ t - t % w := by
  have h1 := Int.emod_nonneg t (show w ≠ 0 by omega)
  have h2 := Int.emod_lt_of_pos t (show 0 < w by omega)
  by_cases h : 0 ≤ t
  · omega
  · by_cases h4 : -t ≤ w
    · have h5 : t % w = (t + w) % w := by simp
      rw [h5]
      by_cases h6 : -t = w
      · rw [show t + w = 0 by omega]
        simp
        omega
      · rw [Int.emod_eq_of_lt (by omega) (by omega)]
        omega
    · omega

set_option maxRecDepth 100000 in
set_option maxHeartbeats 1000000 in
theorem below_any (t m : Int) (w : World) (ht : -9007199254740992 ≤ t ∧ t ≤ 9007199254740992) (hm : 1 ≤ m ∧ m ≤ 9223372036854775807) :
    Calls Tryz.prog 53 #[.int .i64 t, .int .i64 m] w fun e w' => e = .returned (.int .i64 (t - t % m)) ∧ w' = w := by
  have hmz : m ≠ 0 := by omega
  have h1 : -m < Int.tmod t m := by
    have := Int.lt_tmod_of_pos t (show 0 < m by omega); omega
  have h2 : Int.tmod t m < m := Int.tmod_lt_of_pos t (by omega)
  have h3 := fl_lo t m ht hm
  have h4 := Int.emod_nonneg t hmz
  by_cases h : Int.tmod t m < 0
  · have e : t.tmod m + m = t % m := by
      have e2 := Int.add_mul_emod_self_left (t.tmod m) m 1
      rw [Int.mul_one] at e2
      rw [emod_of_tmod, ← e2]
      exact (Int.emod_eq_of_lt (by omega) (by omega)).symm
    have hw1 : IntKind.i64.wrap (t.tmod m + m) = t % m := by rw [IntKind.wrap_i64]; omega
    have hw2 : IntKind.i64.wrap (t - t % m) = t - t % m := by rw [IntKind.wrap_i64]; omega
    have HE : Hid _ := e
    clear e h3
    go_enter Tryz.func53, Tryz.ntmps53
    go_wp2
    go_ret
    exact ⟨ret_int (by have := HE.out; omega), rfl⟩
  · have e : t.tmod m = t % m := by
      rw [emod_of_tmod]
      exact (Int.emod_eq_of_lt (by omega) (by omega)).symm
    have hw2 : IntKind.i64.wrap (t - t.tmod m) = t - t.tmod m := by rw [IntKind.wrap_i64]; omega
    have HE : Hid _ := e
    clear e h3
    go_enter Tryz.func53, Tryz.ntmps53
    go_wp2
    go_ret
    exact ⟨ret_int (by have := HE.out; omega), rfl⟩

set_option maxRecDepth 100000 in
set_option maxHeartbeats 1000000 in
theorem floor_any (t m : Int) (w : World) (hm : m ≤ 9223372036854775807) :
    Calls Tryz.prog 34 #[.int .i64 t, .int .i64 m] w fun e w' => e = .returned (.int .i64 (flF t m)) ∧ w' = w := by
  have hw := fun W => within_any t W
  have hbe := fun W => below_any (cl t) (max m 1) W (cl_in t) (by omega)
  unfold flF
  generalize cl t = u at *
  go_enter Tryz.func34, Tryz.ntmps34
  go_wp2_with (first
    | (go_at_call 54; refine (hw _).mono ?_; clear hw; rintro e w' ⟨rfl, rfl⟩)
    | (go_at_call 53; refine (hbe _).mono ?_; clear hbe; rintro e w' ⟨rfl, rfl⟩))
  go_ret
  exact ⟨rfl, rfl⟩

end Go.Proofs.YtjnjmpfldbkciaaGreat

/- wakes. -/
namespace Go.Proofs.YtjnjmpfldbkciaaGreat
open Go.RowKit Go.Shelf Go.Maps

def wkL : List Lb := [(⟨#[97]⟩, ⟨#[49]⟩)]
def wkA : List Sm := [(1, 4607182418800017408)]
def wkB : List Sm := [(1, 4621256167635550208), (2, 4611686018427387904)]
def wkW (w : World) : World :=
  (((((((w.alloc (.cells #[.string ⟨#[97]⟩, .string ⟨#[49]⟩] 53)).alloc (.cells #[.int .i64 1, .float .f64 4607182418800017408] 42)).alloc
    (.cells #[.slice (some ⟨w.heap.size, 0, none⟩) 1 1, .slice (some ⟨w.heap.size + 1, 0, none⟩) 1 1] 36)).alloc
    (.cells #[.string ⟨#[97]⟩, .string ⟨#[49]⟩] 53)).alloc (.cells #[.int .i64 1, .float .f64 4621256167635550208, .int .i64 2, .float .f64 4611686018427387904] 42)).alloc
    (.cells #[.slice (some ⟨w.heap.size + 1 + 1 + 1, 0, none⟩) 1 1, .slice (some ⟨w.heap.size + 1 + 1 + 1 + 1, 0, none⟩) 2 2] 36)).alloc
    (.cells #[.slice (some ⟨w.heap.size + 1 + 1, 0, none⟩) 1 1, .slice (some ⟨w.heap.size + 1 + 1 + 1 + 1 + 1, 0, none⟩) 1 1] 22))

theorem get_push {w : World} {o : Obj} {k : Nat} {x : Obj} (h : w.heap[k]? = some x) : (w.alloc o).heap[k]? = some x := (Below.heap_alloc w o k (Array.getElem?_eq_some_iff.1 h).1).trans h
theorem get_new {w : World} {o : Obj} {k : Nat} (h : k = w.heap.size) : (w.alloc o).heap[k]? = some o := by subst h; exact heap_alloc_new w o

theorem wk_below (w : World) : Below w.heap.size w (wkW w) := by
  unfold wkW
  exact ((((((((Below.refl _ w).alloc (Nat.le_refl _) _).alloc (by simp) _).alloc (by simp; omega) _).alloc (by simp; omega) _).alloc (by simp; omega) _).alloc (by simp; omega) _).alloc (by simp; omega) _)
theorem wk_one (w : World) : One (wkW w) (.slice (some ⟨w.heap.size + 1 + 1, 0, none⟩) 1 1) (wkL, wkA) ∧ One (wkW w) (.slice (some ⟨w.heap.size + 1 + 1 + 1 + 1 + 1, 0, none⟩) 1 1) (wkL, wkB) ∧ RowAt (wkW w) (.slice (some ⟨w.heap.size + 1 + 1 + 1 + 1 + 1 + 1, 0, none⟩) 2 2) 1 2 [.slice (some ⟨w.heap.size + 1 + 1, 0, none⟩) 1 1, .slice (some ⟨w.heap.size + 1 + 1 + 1 + 1 + 1, 0, none⟩) 1 1] := by
  have g0 : (wkW w).heap[w.heap.size]? = some (.cells #[.string ⟨#[97]⟩, .string ⟨#[49]⟩] 53) := get_push (get_push (get_push (get_push (get_push (get_push (get_new rfl))))))
  have g1 : (wkW w).heap[w.heap.size + 1]? = some (.cells #[.int .i64 1, .float .f64 4607182418800017408] 42) := get_push (get_push (get_push (get_push (get_push (get_new (by simp))))))
  have g2 : (wkW w).heap[w.heap.size + 1 + 1]? = some (.cells #[.slice (some ⟨w.heap.size, 0, none⟩) 1 1, .slice (some ⟨w.heap.size + 1, 0, none⟩) 1 1] 36) := get_push (get_push (get_push (get_push (get_new (by simp)))))
  have g3 : (wkW w).heap[w.heap.size + 1 + 1 + 1]? = some (.cells #[.string ⟨#[97]⟩, .string ⟨#[49]⟩] 53) := get_push (get_push (get_push (get_new (by simp))))
  have g4 : (wkW w).heap[w.heap.size + 1 + 1 + 1 + 1]? = some (.cells #[.int .i64 1, .float .f64 4621256167635550208, .int .i64 2, .float .f64 4611686018427387904] 42) := get_push (get_push (get_new (by simp)))
  have g5 : (wkW w).heap[w.heap.size + 1 + 1 + 1 + 1 + 1]? = some (.cells #[.slice (some ⟨w.heap.size + 1 + 1 + 1, 0, none⟩) 1 1, .slice (some ⟨w.heap.size + 1 + 1 + 1 + 1, 0, none⟩) 2 2] 36) := get_push (get_new (by simp))
  have g6 : (wkW w).heap[w.heap.size + 1 + 1 + 1 + 1 + 1 + 1]? = some (.cells #[.slice (some ⟨w.heap.size + 1 + 1, 0, none⟩) 1 1, .slice (some ⟨w.heap.size + 1 + 1 + 1 + 1 + 1, 0, none⟩) 1 1] 22) := get_new (by simp)
  refine ⟨⟨_, _, _, _, rfl, RowAt.of_block g2 rfl (by decide), RowAt.of_block g0 rfl (by decide), RowAt.of_block g1 rfl (by decide)⟩, ⟨_, _, _, _, rfl, RowAt.of_block g5 rfl (by decide), RowAt.of_block g3 rfl (by decide), RowAt.of_block g4 rfl (by decide)⟩, RowAt.of_block g6 rfl (by decide)⟩
theorem wk_insA : insS wkA = wkA := by kernel_rfl
theorem wk_insB : insS wkB = wkB := by kernel_rfl
theorem wk_fitA : Fit (wkL, wkA) := ⟨by decide, by decide, by decide, wk_insA, fun i h => by simp [wkA] at h⟩
theorem wk_fitB : Fit (wkL, wkB) := ⟨by decide, by decide, by decide, wk_insB, fun i h => by
  have : i = 0 := by simp [wkB] at h; omega
  subst this
  simp [wkB]⟩
theorem wk_cmp : cmpL wkL wkL = 0 := by decide
theorem wk_tog : togS wkA wkB = [(1, 4607182418800017408), (2, 4611686018427387904)] := by simp [wkA, wkB, togS]

set_option maxRecDepth 100000 in
set_option maxHeartbeats 4000000 in
theorem wakes_any (w : World) : Calls Tryz.prog 14 #[] w fun e w' => e = .returned (.bool true) ∧ Below w.heap.size w w' := by
  obtain ⟨h1, h2, h3⟩ := wk_one w
  have hm := mergeC _ _ _ (wkL, wkA) (wkL, wkB) (wkW w) h3 h1 h2 wk_fitA wk_fitB wk_cmp
  have HB0 : Hid (Below w.heap.size w (wkW w)) := wk_below w
  have hnil := fun g l W => seq_nil g l W
  have hfo : FloatKind.f64.format.order 4607182418800017408 4607182418800017408 = some Ordering.eq := by kernel_rfl
  dsimp only at hm
  rw [wk_tog] at hm
  have eM : ∀ args w, (callFunc 50 args).run Tryz.prog w = .ok (.enter 50 args) w := enters_of Tryz.func50 (by kernel_rfl) rfl
  have hfl := fun W => floor_any (-1) 5 W (by omega)
  have hfe : flF (-1) 5 = -5 := by decide
  rw [hfe] at hfl
  clear h1 h2 h3 hfe
  go_enter Tryz.func14, Tryz.ntmps14
  go_wp2_with (first
    | (go_at_call 32; refine hm.mono ?_; clear hm; rintro e w1 ⟨B, rfl, ht1, hb1⟩; have hcc := collectC1 _ _ _ w1 w1 ht1 (Below.refl _ _) eM (by decide) (by decide); have HB1 : Hid _ := hb1; clear ht1 hb1 eM)
    | (go_at_call 33; refine hcc.mono ?_; clear hcc; rintro e w2 ⟨v, g, c, vl, vs, rfl, rfl, hr, hl, hs, hb2⟩; have HB2 : Hid (Below w1.heap.size w1 w2) := hb2; obtain ⟨al, cl9, rfl, -⟩ := id hl; obtain ⟨a9, c9, rfl, -⟩ := id hs; obtain ⟨bg, og, e9, q1⟩ := RowAt.one hr (j := 1) rfl; cases e9; have q1 := q1 w2 (Below.refl _ _); obtain ⟨bs, os, e9, q2⟩ := RowAt.one hs (j := 1) rfl; subst e9; have q2 := q2 w2 (Below.refl _ _); clear hr hl hs hb2)
    | (go_at_call 34; refine (hfl _).mono ?_; clear hfl; rintro e w3 ⟨rfl, rfl⟩))
  go_ret
  exact ⟨rfl, HB0.out.trans ((HB1.out.trans (HB2.out.mono HB1.out.size)).mono HB0.out.size)⟩

end Go.Proofs.YtjnjmpfldbkciaaGreat
