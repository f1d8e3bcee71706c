/- wakes. -/
import Derived.Test.YtfkahbgphoonaaaYq
import Derived.Test.YtfkahbgphoonaaaYv
namespace Go.Proofs.Ytfkahbgphoonaaa
open Go.RowKit Go.Shelf Go.Maps

def wkL : List Lb := [(⟨#[97]⟩, ⟨#[49]⟩)]
def wkA : List Sm := [(1, 4607182418800017408)]
def wkB : List Sm := [(1, 4621256167635550208), (2, 4611686018427387904)]
def wkW (w : World) : World :=
  (((((((w.alloc (.cells #[.string ⟨#[97]⟩, .string ⟨#[49]⟩] 49)).alloc (.cells #[.int .i64 1, .float .f64 4607182418800017408] 53)).alloc
    (.cells #[.slice (some ⟨w.heap.size, 0, none⟩) 1 1, .slice (some ⟨w.heap.size + 1, 0, none⟩) 1 1] 56)).alloc
    (.cells #[.string ⟨#[97]⟩, .string ⟨#[49]⟩] 49)).alloc (.cells #[.int .i64 1, .float .f64 4621256167635550208, .int .i64 2, .float .f64 4611686018427387904] 53)).alloc
    (.cells #[.slice (some ⟨w.heap.size + 1 + 1 + 1, 0, none⟩) 1 1, .slice (some ⟨w.heap.size + 1 + 1 + 1 + 1, 0, none⟩) 2 2] 56)).alloc
    (.cells #[.slice (some ⟨w.heap.size + 1 + 1, 0, none⟩) 1 1, .slice (some ⟨w.heap.size + 1 + 1 + 1 + 1 + 1, 0, none⟩) 1 1] 57))

theorem get_push {w : World} {o : Obj} {k : Nat} {x : Obj} (h : w.heap[k]? = some x) : (w.alloc o).heap[k]? = some x := (Below.heap_alloc w o k (Array.getElem?_eq_some_iff.1 h).1).trans h
theorem get_new {w : World} {o : Obj} {k : Nat} (h : k = w.heap.size) : (w.alloc o).heap[k]? = some o := by subst h; exact heap_alloc_new w o

theorem wk_below (w : World) : Below w.heap.size w (wkW w) := by
  unfold wkW
  exact ((((((((Below.refl _ w).alloc (Nat.le_refl _) _).alloc (by simp) _).alloc (by simp; omega) _).alloc (by simp; omega) _).alloc (by simp; omega) _).alloc (by simp; omega) _).alloc (by simp; omega) _)
theorem wk_one (w : World) : One (wkW w) (.slice (some ⟨w.heap.size + 1 + 1, 0, none⟩) 1 1) (wkL, wkA) ∧ One (wkW w) (.slice (some ⟨w.heap.size + 1 + 1 + 1 + 1 + 1, 0, none⟩) 1 1) (wkL, wkB) ∧ RowAt (wkW w) (.slice (some ⟨w.heap.size + 1 + 1 + 1 + 1 + 1 + 1, 0, none⟩) 2 2) 1 2 [.slice (some ⟨w.heap.size + 1 + 1, 0, none⟩) 1 1, .slice (some ⟨w.heap.size + 1 + 1 + 1 + 1 + 1, 0, none⟩) 1 1] := by
  have g0 : (wkW w).heap[w.heap.size]? = some (.cells #[.string ⟨#[97]⟩, .string ⟨#[49]⟩] 49) := get_push (get_push (get_push (get_push (get_push (get_push (get_new rfl))))))
  have g1 : (wkW w).heap[w.heap.size + 1]? = some (.cells #[.int .i64 1, .float .f64 4607182418800017408] 53) := get_push (get_push (get_push (get_push (get_push (get_new (by simp))))))
  have g2 : (wkW w).heap[w.heap.size + 1 + 1]? = some (.cells #[.slice (some ⟨w.heap.size, 0, none⟩) 1 1, .slice (some ⟨w.heap.size + 1, 0, none⟩) 1 1] 56) := get_push (get_push (get_push (get_push (get_new (by simp)))))
  have g3 : (wkW w).heap[w.heap.size + 1 + 1 + 1]? = some (.cells #[.string ⟨#[97]⟩, .string ⟨#[49]⟩] 49) := get_push (get_push (get_push (get_new (by simp))))
  have g4 : (wkW w).heap[w.heap.size + 1 + 1 + 1 + 1]? = some (.cells #[.int .i64 1, .float .f64 4621256167635550208, .int .i64 2, .float .f64 4611686018427387904] 53) := get_push (get_push (get_new (by simp)))
  have g5 : (wkW w).heap[w.heap.size + 1 + 1 + 1 + 1 + 1]? = some (.cells #[.slice (some ⟨w.heap.size + 1 + 1 + 1, 0, none⟩) 1 1, .slice (some ⟨w.heap.size + 1 + 1 + 1 + 1, 0, none⟩) 2 2] 56) := get_push (get_new (by simp))
  have g6 : (wkW w).heap[w.heap.size + 1 + 1 + 1 + 1 + 1 + 1]? = some (.cells #[.slice (some ⟨w.heap.size + 1 + 1, 0, none⟩) 1 1, .slice (some ⟨w.heap.size + 1 + 1 + 1 + 1 + 1, 0, none⟩) 1 1] 57) := get_new (by simp)
  refine ⟨⟨_, _, _, _, rfl, RowAt.of_block g2 rfl (by decide), RowAt.of_block g0 rfl (by decide), RowAt.of_block g1 rfl (by decide)⟩, ⟨_, _, _, _, rfl, RowAt.of_block g5 rfl (by decide), RowAt.of_block g3 rfl (by decide), RowAt.of_block g4 rfl (by decide)⟩, RowAt.of_block g6 rfl (by decide)⟩
theorem wk_insA : insS wkA = wkA := by kernel_rfl
theorem wk_insB : insS wkB = wkB := by kernel_rfl
theorem wk_fitA : Fit (wkL, wkA) := ⟨by decide, by decide, by decide, wk_insA, fun i h => by simp [wkA] at h⟩
theorem wk_fitB : Fit (wkL, wkB) := ⟨by decide, by decide, by decide, wk_insB, fun i h => by
  have : i = 0 := by simp [wkB] at h; omega
  subst this
  simp [wkB]⟩
theorem wk_cmp : cmpL wkL wkL = 0 := by decide
theorem wk_tog : togS wkA wkB = [(1, 4607182418800017408), (2, 4611686018427387904)] := by simp [wkA, wkB, togS]

set_option maxRecDepth 100000 in
set_option maxHeartbeats 4000000 in
theorem wakes_any (w : World) : Calls Try.prog 13 #[] w fun e w' => e = .returned (.bool true) ∧ Below w.heap.size w w' := by
  obtain ⟨h1, h2, h3⟩ := wk_one w
  have hm := mergeC _ _ _ (wkL, wkA) (wkL, wkB) (wkW w) h3 h1 h2 wk_fitA wk_fitB wk_cmp
  have HB0 : Hid (Below w.heap.size w (wkW w)) := wk_below w
  have hnil := fun g l W => seq_nil g l W
  have hfo : FloatKind.f64.format.order 4607182418800017408 4607182418800017408 = some Ordering.eq := by kernel_rfl
  dsimp only at hm
  rw [wk_tog] at hm
  have eM : ∀ args w, (callFunc 35 args).run Try.prog w = .ok (.enter 35 args) w := enters_of Try.func35 (by kernel_rfl) rfl
  have hfl := fun W => floor_any (-1) 5 W (by omega)
  have hfe : flF (-1) 5 = -5 := by decide
  rw [hfe] at hfl
  clear h1 h2 h3 hfe
  go_enter Try.func13, Try.ntmps13
  go_wp2_with (first
    | (go_at_call 22; refine hm.mono ?_; clear hm; rintro e w1 ⟨B, rfl, ht1, hb1⟩; have hcc := collectC1 _ _ _ w1 w1 ht1 (Below.refl _ _) eM (by decide) (by decide); have HB1 : Hid _ := hb1; clear ht1 hb1 eM)
    | (go_at_call 23; refine hcc.mono ?_; clear hcc; rintro e w2 ⟨v, g, c, vl, vs, rfl, rfl, hr, hl, hs, hb2⟩; have HB2 : Hid (Below w1.heap.size w1 w2) := hb2; obtain ⟨al, cl9, rfl, -⟩ := id hl; obtain ⟨a9, c9, rfl, -⟩ := id hs; obtain ⟨bg, og, e9, q1⟩ := RowAt.one hr (j := 1) rfl; cases e9; have q1 := q1 w2 (Below.refl _ _); obtain ⟨bs, os, e9, q2⟩ := RowAt.one hs (j := 1) rfl; subst e9; have q2 := q2 w2 (Below.refl _ _); clear hr hl hs hb2)
    | (go_at_call 24; refine (hfl _).mono ?_; clear hfl; rintro e w3 ⟨rfl, rfl⟩))
  go_ret
  exact ⟨rfl, HB0.out.trans ((HB1.out.trans (HB2.out.mono HB1.out.size)).mono HB0.out.size)⟩

end Go.Proofs.Ytfkahbgphoonaaa
