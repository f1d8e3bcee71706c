/- SpoilLabels: what is answered is written over, and grown. -/
import Derived.Test.YtobkomfeojhhbaaDoorNd
import Derived.Test.YtobkomfeojhhbaaDoorRo
namespace Go.Proofs.YtobkomfeojhhbaaDoor
open Go.RowKit Go.Maps

theorem heap_setCell_same {w : World} {b i : Nat} {cs : Array Value} {t : TypeId} {fr : Nat × Nat} (h : w.heap[b]? = some (.cells cs t fr)) (v : Value) : (w.setCell ⟨b, i, none⟩ v).heap[b]? = some (.cells (cs.set! i v) t fr) := by
  simp only [World.setCell, Array.getElem?_modify, h, if_true]
  rfl
theorem ownsRow_set {w : World} {base : Nat} {e : TypeId} {size n : Nat} {v : Value} {xs : List Value} (h : w.ownsRow base e size v n xs) {g : Nat} (hg : v.ownBlock = some g) {i : Nat} (u : Value) : (w.setCell ⟨g, i, none⟩ u).ownsRow base e size v n (xs.set i u) := by
  rcases h.2 with ⟨rfl, _⟩ | ⟨g', cap, cur, rfl, hb, hh, h1, h2, h3, h4⟩
  · cases hg
  · simp [Value.ownBlock] at hg
    subst hg
    have hl := h.1
    refine ⟨by rw [List.length_set]; exact hl, Or.inr ⟨g', cap, cur.set! i u, rfl, hb, ?_, h1, h2, by simpa using h3, ?_⟩⟩
    · have := heap_setCell_same (w := w) (b := g') (i := i) hh u
      simpa using this
    · rw [← h4]
      simp [List.take_set]
/-- The cells of an owned row. -/
theorem row_cell {w : World} {base : Nat} {e : TypeId} {size n g c : Nat} {xs : List Value} (h : w.ownsRow base e size (.slice (some ⟨g, 0, none⟩) n c) n xs) {j : Nat} (hj : j < n * size) : (∃ u, w.cell? ⟨g, j, none⟩ = some u) ∧ w.frozen? ⟨g, j, none⟩ = false := by
  have hl := h.1
  have hj' : j < xs.length := by omega
  have hc := h.cells (g := g) rfl j xs[j] (by simp [hj'])
  rw [Addr.add_lit, Nat.zero_add] at hc
  refine ⟨⟨_, hc⟩, ?_⟩
  rcases h.2 with ⟨e, _⟩ | ⟨g', cap, cur, e, hb, hh, h1, h2, h3, h4⟩
  · cases e
  · cases e
    simp [World.frozen?, hh]
theorem row_some {w : World} {base : Nat} {e : TypeId} {size n c : Nat} {a : Option Addr} {xs : List Value} (h : w.ownsRow base e size (.slice a n c) n xs) (hn : 0 < n) : ∃ g, a = some ⟨g, 0, none⟩ := by
  rcases h.2 with ⟨_, h0⟩ | ⟨g', cap, cur, e, _⟩
  · omega
  · cases e
    exact ⟨g', rfl⟩

set_option maxRecDepth 100000 in
set_option maxHeartbeats 2000000 in
theorem spoil_any (base : Nat) (v : Value) (ls : List Lb) (w : World) (h : w.ownsRow base 51 2 v ls.length (lbCells ls)) (hl : ls.length ≤ 900) (hb : base ≤ w.heap.size) :
    Calls Tryd.prog 25 #[v] w fun e w' => e = .returned (.tuple #[]) ∧ Kept (fun k => v.ownBlock = some k) w w' := by
  obtain ⟨a, c, rfl⟩ := slice_of_row h
  generalize ls.length = n at *
  have HR : Hid (w.ownsRow base 51 2 (.slice a n c) n (lbCells ls)) := h
  clear h
  generalize lbCells ls = xs at *
  have HM8 : Hid (∀ W, Calls Tryd.prog 41 #[.int .i64 8] W fun e w' => e = .returned (.agg #[.string (markB 8).1, .string (markB 8).2]) ∧ Below W.heap.size W w') := fun W => mark_any 8 W (by omega)
  have HM7 : Hid (∀ W, Calls Tryd.prog 41 #[.int .i64 7] W fun e w' => e = .returned (.agg #[.string (markB 7).1, .string (markB 7).2]) ∧ Below W.heap.size W w') := fun W => mark_any 7 W (by omega)
  generalize (markB 8).1 = m81 at *
  generalize (markB 8).2 = m82 at *
  generalize (markB 7).1 = m71 at *
  generalize (markB 7).2 = m72 at *
  go_enter Tryd.func25, Tryd.ntmps25
  go_wp2
  go_loopw [2] (fun i wr => ∃ (k : Nat) (xs : List Value), k ≤ n ∧ i = .int .i64 k ∧ Hid (wr.ownsRow base 51 2 (.slice a n c) n xs) ∧ Hid (Kept (fun k => (Value.slice a n c).ownBlock = some k) w wr)) (fun i _ => n - (intOf i).toNat)
  case atStart => exact ⟨0, xs, Nat.zero_le _, rfl, HR, Kept.refl _ _⟩
  case round =>
    obtain ⟨k, ys, hk, rfl, hrow, hkep⟩ := hrel
    by_cases hlt : k < n
    · obtain ⟨g, rfl⟩ := row_some hrow.out (by omega)
      have hm8 := HM8.out wr
      have HRW : Hid (∀ w1, Below wr.heap.size wr w1 → w1.ownsRow base 51 2 (.slice (some ⟨g, 0, none⟩) n c) n ys ∧ Kept (fun k => (Value.slice (some ⟨g, 0, none⟩) n c).ownBlock = some k) w w1) := fun w1 hb1 => ⟨row_below hrow.out hb1, hkep.out.below hb1⟩
      have hkl : (k : Int) < (n : Int) := by omega
      clear hrow hkep HR HM8
      go_wp2_with (go_at_call 41; refine hm8.mono ?_; clear hm8; rintro e w1 ⟨rfl, hb1⟩; obtain ⟨hr1, hk1⟩ := HRW.out w1 hb1; clear HRW hb1; obtain ⟨⟨u0, q0⟩, f0⟩ := row_cell hr1 (j := k * 2) (by omega); obtain ⟨⟨u1, q1⟩, f1⟩ := row_cell hr1 (j := k * 2 + 1) (by omega); have HR1 : Hid (w1.ownsRow base 51 2 (.slice (some ⟨g, 0, none⟩) n c) n ys) := hr1; have HK1 : Hid (Kept (fun k => (Value.slice (some ⟨g, 0, none⟩) n c).ownBlock = some k) w w1) := hk1; clear hr1 hk1)
      go_roundw
      case rel => exact ⟨k + 1, _, by omega, by go_num, ownsRow_set (ownsRow_set HR1.out (g := g) rfl (i := k * 2) _) (g := g) rfl (i := k * 2 + 1) _, (HK1.out.setCell (p := ⟨g, k * 2, none⟩) (fun _ => rfl) _).setCell (p := ⟨g, k * 2 + 1, none⟩) (fun _ => rfl) _⟩
      case measure => simp [intOf]; omega
    · clear HR HM8
      go_wp2
      go_loopw [0, 3] (fun vv i wr => ∃ (k m : Nat) (xs : List Value), k ≤ 10 ∧ i = .int .i64 k ∧ m ≤ 900 + k ∧ Hid (wr.ownsRow base 51 2 vv m xs) ∧ Hid (Kept (fun k => (Value.slice a n c).ownBlock = some k) w wr) ∧ Hid (vv.ownBlock = (Value.slice a n c).ownBlock ∨ ∃ j, vv.ownBlock = some j ∧ w.heap.size ≤ j)) (fun _ i _ => 10 - (intOf i).toNat)
      case atStart => exact ⟨0, n, ys, by omega, rfl, by omega, hrow, hkep, Or.inl rfl⟩
      case round =>
        clear hrow hkep
        obtain ⟨k, m, ys, hk, rfl, hm, hrow, hkep, hown⟩ := hrel
        by_cases hlt : k < 10
        · obtain ⟨av, cv, hvv⟩ := slice_of_row hrow.out
          subst hvv
          have hm7 := HM7.out wr
          have hsz := hkep.out.size
          have HRW : Hid (∀ w1, Below wr.heap.size wr w1 → w1.ownsRow base 51 2 (.slice av m cv) m ys ∧ Kept (fun k => (Value.slice a n c).ownBlock = some k) w w1) := fun w1 hb1 => ⟨row_below hrow.out hb1, hkep.out.below hb1⟩
          have hkl : (k : Int) < 10 := by omega
          clear hrow hkep HM7
          go_wp2_with (first
            | (go_at_call 41; refine hm7.mono ?_; clear hm7; rintro e w1 ⟨rfl, hb1⟩; obtain ⟨hr1, hk1⟩ := HRW.out w1 hb1; clear HRW; have hs1 := hb1.size; clear hb1)
            | (at_builtin; refine wpList_append_labs _ rfl _ _ rfl base (.slice av m cv) m ys rfl (hr1.alloc _) _ [(m71, m72)] rfl (LabsAt.lone (heap_alloc_new w1 _)) (by simp; omega) (by simp; omega) ?_; intro v2 w2 hr2 hg2 hloc2))
          go_roundw
          case rel =>
            refine ⟨k + 1, m + [(m71, m72)].length, _, by omega, by go_num, by simp; omega, hr2, ?_, ?_⟩
            · refine (hk1.alloc _).grown hg2 (fun j hj e => ?_)
              rcases hown.out with e9 | ⟨j9, e9, h9⟩
              · rw [← e9]; exact e
              · rw [e9] at e; cases e; omega
            · rcases hloc2 with e8 | e8
              · show _ ∨ _
                rw [e8]
                exact hown.out
              · exact Or.inr ⟨_, e8, by have := hk1.size; simp; omega⟩
          case measure => simp [intOf]; omega
        · have HK : Hid (Kept (fun k => (Value.slice a n c).ownBlock = some k) w wr) := hkep
          clear hrow hkep hown HM7
          go_wp2
          go_end0
          exact ⟨rfl, HK.out⟩

end Go.Proofs.YtobkomfeojhhbaaDoor
