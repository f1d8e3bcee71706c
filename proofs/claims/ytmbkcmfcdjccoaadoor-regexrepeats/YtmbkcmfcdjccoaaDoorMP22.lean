/- The reader of an expression: what stands in brackets. -/
import Derived.Test.YtmbkcmfcdjccoaaDoorMP19
namespace Go.Proofs.YtmbkcmfcdjccoaaDoor
open Go.RowKit Go.Maps

theorem sizeN_group (n : Nat) (a : Nd) : sizeN (.group n a) = capN (sizeN a + 2) := by rw [sizeN]
theorem sizeN_either (a b : Nd) : sizeN (.either a b) = capN (sizeN a + sizeN b + 2) := by rw [sizeN]
/-- The node of a group. -/
theorem nd_group {W : World} {S0 b : Nat} {x : Nd} {g : Nat} {gz sz : Int} (hx : NdAt W (Fresh S0 W.heap.size) x b) (hS : S0 ≤ W.heap.size) (hg : gz = (g : Int)) (hz : sz = capN (sizeN x + 2)) :
    NdAt ((W.alloc (.cells #[.pointer (some ⟨b, 0, none⟩)] 59)).alloc (.cells #[.int .i64 5, .slice none 0 0, .slice (some ⟨W.heap.size, 0, none⟩) 1 1, .int .i64 gz, .int .i64 0, .int .i64 0, .bool false, .int .i64 sz] 65)) (Fresh S0 ((W.alloc (.cells #[.pointer (some ⟨b, 0, none⟩)] 59)).alloc (.cells #[.int .i64 5, .slice none 0 0, .slice (some ⟨W.heap.size, 0, none⟩) 1 1, .int .i64 gz, .int .i64 0, .int .i64 0, .bool false, .int .i64 sz] 65)).heap.size) (.group g x) (W.heap.size + 1) := by
  subst hg
  have hs1 : (W.alloc (.cells #[.pointer (some ⟨b, 0, none⟩)] 59)).heap.size = W.heap.size + 1 := by simp
  generalize hN : Obj.cells #[Value.int .i64 5, .slice none 0 0, .slice (some ⟨W.heap.size, 0, none⟩) 1 1, .int .i64 (g : Int), .int .i64 0, .int .i64 0, .bool false, .int .i64 sz] 65 = N
  have hs2 : ((W.alloc (.cells #[.pointer (some ⟨b, 0, none⟩)] 59)).alloc N).heap.size = W.heap.size + 2 := by simp
  have hb2 : ∀ j, j < W.heap.size → ((W.alloc (.cells #[.pointer (some ⟨b, 0, none⟩)] 59)).alloc N).heap[j]? = W.heap[j]? := fun j hj => (Below.heap_alloc _ _ _ (by omega)).trans (Below.heap_alloc _ _ _ (by omega))
  rw [hs2]
  unfold NdAt
  refine ⟨⟨by omega, by omega⟩, .slice (some ⟨W.heap.size, 0, none⟩) 1 1, b, ?_, ⟨⟨rfl, Or.inr ⟨W.heap.size, 1, #[ptrV b], rfl, Nat.zero_le _, ?_, Nat.le_refl _, by decide, rfl, rfl⟩⟩, fun j hj => ?_⟩, NdAt.to (fun j hj => ⟨hj.1, by have := hj.2; omega⟩) (fun j hj => hb2 j hj.2) x b hx⟩
  · unfold NodeB
    rw [← hs1, heap_alloc_new, ← hN, hz, sizeN_group]
  · rw [Below.heap_alloc _ _ _ (by omega)]
    exact heap_alloc_new _ _
  · have hj2 : some W.heap.size = some j := hj
    injection hj2 with hj2
    exact ⟨by omega, by omega⟩
theorem cell7 {W : World} {F : Nat → Prop} {x : Nd} {b : Nat} (h : NdAt W F x b) : W.cell? ⟨b, 7, none⟩ = some (.int .i64 (sizeN x)) := h.size
theorem RdS.group {w W : World} {U : Nat} {s : ByteArray} {i g : Nat} (H : RdS w U s g W i) (j : Nat) {v : Value} (hv : v = .int .i64 j) : RdS w U s j (W.setCell ⟨U, 2, none⟩ v) i := ⟨H.rd.set2 j hv, H.kept.two (Kept.un _ _ _ _)⟩
/-- skip, where a part lies behind the reader. -/
theorem skip_nd {w : World} {U : Nat} {s : ByteArray} {i g : Nat} {y : Nd} {b : Nat} (c : UInt8) {B : Bool} {J : Nat} (hb : seesB s i c = B) (hJ : overB s i c = J) (hU : U < w.heap.size) (hs : s.size ≤ 1000000) : Hid (∀ W, RdS w U s g W i → NdAt W (Fresh w.heap.size W.heap.size) y b → Calls Tryd.prog 33 #[.pointer (some ⟨U, 0, none⟩), .int .u8 c.toNat] W fun e w' => e = .returned (.bool B) ∧ RdS w U s g w' J ∧ NdAt w' (Fresh w.heap.size w'.heap.size) y b) := fun W hW hx => by
  have h9 := skip_any U s i g c W hW.rd hs
  rw [hb, hJ] at h9
  exact h9.mono (by rintro e w' ⟨he, hr, hk⟩; exact ⟨he, hW.to hr hk, hx.kept hk hU⟩)

set_option maxRecDepth 100000 in
set_option maxHeartbeats 8000000 in
theorem bracket_next {s : ByteArray} {n : Nat} (hEi : ∀ i g, i ≤ s.size → g ≤ i → 5 * (s.size - i) + 2 ≤ n → PtC 25 s i g (eitherR s n i g)) (hs : s.size ≤ 10000) :
    ∀ i g, i ≤ s.size → g + 1 ≤ i → 5 * (s.size - i) + 3 ≤ n + 1 → PtC 53 s i g (bracketR s (n + 1) i g) := by
  intro i g hi hg hn U B w h hE hB
  have hU := h.lt
  have hsm : s.size ≤ 1000000 := by omega
  have HS : Hid (RdS w U s g w i) := RdS.start h
  have HU : Hid (U < w.heap.size) := hU
  rw [bracket_one]
  cases h63 : seesB s i 63 with
  | true =>
    rw [if_pos rfl]
    have HK := skip_yes (w := w) (U := U) (g := g) 63 h63 hsm
    have hlt := seesB_lt h63
    clear h63
    cases h58 : seesB s (i + 1) 58 with
    | false =>
      rw [if_neg (by simp)]
      have HK2 := skip_no (w := w) (U := U) (g := g) 58 h58 hsm
      clear h hE hEi
      go_enter Tryd.func53, Tryd.ntmps53
      go_wp2_with (first
        | (go_at_call 33; refine (HK.out _ HS.out).mono ?_; clear HK HS; rintro e w1 ⟨rfl, hl⟩; have HS : Hid (RdS w U s g w1 (i + 1)) := hl; clear hl)
        | (go_at_call 33; refine (HK2.out _ HS.out).mono ?_; clear HK2 HS; rintro e w2 ⟨rfl, hl⟩; have HS : Hid (RdS w U s g w2 (i + 1)) := hl; clear hl))
      go_ret2
      exact ⟨_, rfl, g, HS.out⟩
    | true =>
      rw [if_pos rfl]
      have HK2 := skip_yes (w := w) (U := U) (g := g) 58 h58 hsm
      have hlt2 := seesB_lt h58
      have HEI := (hEi (i + 2) g (by omega) (by omega) (by omega)).is hE hB (by omega)
      clear h hE hEi h58
      cases hr : eitherR s n (i + 2) g with
      | no q =>
        rw [hr] at HEI
        have HE2 : Hid (∀ W, RdS w U s g W (i + 1 + 1) → Calls Tryd.prog 25 #[.pointer (some ⟨U, 0, none⟩)] W fun e w' => ∃ x, e = .returned (.tuple #[.pointer x, .bool false]) ∧ PtQ w U s (.no q) x w') := HEI.out
        clear HEI hr
        dsimp only
        go_enter Tryd.func53, Tryd.ntmps53
        go_wp2_with (first
          | (go_at_call 33; refine (HK.out _ HS.out).mono ?_; clear HK HS; rintro e w1 ⟨rfl, hl⟩; have HS : Hid (RdS w U s g w1 (i + 1)) := hl; clear hl)
          | (go_at_call 33; refine (HK2.out _ HS.out).mono ?_; clear HK2 HS; rintro e w2 ⟨rfl, hl⟩; have HS : Hid (RdS w U s g w2 (i + 1 + 1)) := hl; clear hl)
          | (go_at_call 25; refine (HE2.out _ HS.out).mono ?_; clear HE2 HS; rintro e w3 ⟨x, rfl, hl⟩; have HQ : Hid (PtQ w U s (.no q) x w3) := hl; clear hl))
        go_ret2
        exact ⟨_, rfl, HQ.out⟩
      | yes x p g2 =>
        rw [hr] at HEI
        have HE2 : Hid (∀ W, RdS w U s g W (i + 1 + 1) → Calls Tryd.prog 25 #[.pointer (some ⟨U, 0, none⟩)] W fun e w' => ∃ a, e = .returned (.tuple #[.pointer a, .bool true]) ∧ ∃ b, a = some ⟨b, 0, none⟩ ∧ RdS w U s g2 w' p ∧ NdAt w' (Fresh w.heap.size w'.heap.size) x b) := HEI.out
        clear HEI hr
        dsimp only
        cases h41 : seesB s p 41 with
        | true =>
          rw [if_pos rfl]
          have HK3 := fun b => skip_nd (w := w) (U := U) (g := g2) (y := x) (b := b) 41 h41 (over_yes h41) hU hsm
          have HK3 : Hid (∀ b, Hid _) := HK3
          clear h41
          go_enter Tryd.func53, Tryd.ntmps53
          go_wp2_with (first
            | (go_at_call 33; refine (HK.out _ HS.out).mono ?_; clear HK HS; rintro e w1 ⟨rfl, hl⟩; have HS : Hid (RdS w U s g w1 (i + 1)) := hl; clear hl)
            | (go_at_call 33; refine (HK2.out _ HS.out).mono ?_; clear HK2 HS; rintro e w2 ⟨rfl, hl⟩; have HS : Hid (RdS w U s g w2 (i + 1 + 1)) := hl; clear hl)
            | (go_at_call 25; refine (HE2.out _ HS.out).mono ?_; clear HE2 HS; rintro e w3 ⟨a, rfl, b, rfl, hl, hnd⟩; have HX : Hid (RdS w U s g2 w3 p ∧ NdAt w3 (Fresh w.heap.size w3.heap.size) x b) := ⟨hl, hnd⟩; clear hl hnd)
            | (go_at_call 33; refine ((HK3.out b).out _ HX.out.1 HX.out.2).mono ?_; clear HK3 HX; rintro e w4 ⟨rfl, hl, hnd⟩; have HX : Hid (RdS w U s g2 w4 (p + 1) ∧ NdAt w4 (Fresh w.heap.size w4.heap.size) x b) := ⟨hl, hnd⟩; clear hl hnd))
          go_ret2
          exact ⟨_, rfl, _, rfl, HX.out.1, HX.out.2⟩
        | false =>
          rw [if_neg (by simp)]
          have HK3 := skip_no (w := w) (U := U) (g := g2) 41 h41 hsm
          clear h41
          go_enter Tryd.func53, Tryd.ntmps53
          go_wp2_with (first
            | (go_at_call 33; refine (HK.out _ HS.out).mono ?_; clear HK HS; rintro e w1 ⟨rfl, hl⟩; have HS : Hid (RdS w U s g w1 (i + 1)) := hl; clear hl)
            | (go_at_call 33; refine (HK2.out _ HS.out).mono ?_; clear HK2 HS; rintro e w2 ⟨rfl, hl⟩; have HS : Hid (RdS w U s g w2 (i + 1 + 1)) := hl; clear hl)
            | (go_at_call 25; refine (HE2.out _ HS.out).mono ?_; clear HE2 HS; rintro e w3 ⟨a, rfl, b, rfl, hl, hnd⟩; have HS : Hid (RdS w U s g2 w3 p) := hl; clear hl hnd)
            | (go_at_call 33; refine (HK3.out _ HS.out).mono ?_; clear HK3 HS; rintro e w4 ⟨rfl, hl⟩; have HS : Hid (RdS w U s g2 w4 p) := hl; clear hl))
          go_ret2
          exact ⟨_, rfl, _, HS.out⟩
  | false =>
    rw [if_neg (by simp)]
    have HK := skip_no (w := w) (U := U) (g := g) 63 h63 hsm
    clear h63
    have HEI := (hEi i (g + 1) hi hg (by omega)).is hE hB (by omega)
    have hok := (allOk s n).either i (g + 1) hi hg
    have HC := capped_is
    have hgz : (g : Int) ≤ 10000 := by omega
    have hg0 : (((g + 1 : Nat) : Int) == 0) = false := by simp; omega
    have HKU : ∀ W, RdS w U s g W i → Kept (fun k => k = U) w (W.setCell ⟨U, 2, none⟩ (.int .i64 ((g + 1 : Nat) : Int))) := fun W hW => (hW.group (g + 1) rfl).kept
    clear h hE hEi HKU
    cases hr : eitherR s n i (g + 1) with
    | no q =>
      rw [hr] at HEI
      have HE2 : Hid (∀ W, RdS w U s (g + 1) W i → Calls Tryd.prog 25 #[.pointer (some ⟨U, 0, none⟩)] W fun e w' => ∃ x, e = .returned (.tuple #[.pointer x, .bool false]) ∧ PtQ w U s (.no q) x w') := HEI.out
      clear HEI hr hok HC
      dsimp only
      go_enter Tryd.func53, Tryd.ntmps53
      go_wp2_with (first
        | (go_at_call 33; refine (HK.out _ HS.out).mono ?_; clear HK HS; rintro e w1 ⟨rfl, hl⟩; have HS : Hid (RdS w U s g w1 i) := hl; clear hl; have c2 := HS.out.rd.c2; have f2 := HS.out.rd.f2)
        | (go_at_call 25; refine (HE2.out _ (HS.out.group (g + 1) (by go_num))).mono ?_; clear HE2 HS c2 f2; rintro e w3 ⟨x, rfl, hl⟩; have HQ : Hid (PtQ w U s (.no q) x w3) := hl; clear hl))
      go_ret2
      exact ⟨_, rfl, HQ.out⟩
    | yes x p g2 =>
      rw [hr] at HEI hok
      obtain ⟨o1, o2, o3, o4⟩ := hok
      have o5 := wf_size x o4
      clear o4
      have HE2 : Hid (∀ W, RdS w U s (g + 1) W i → Calls Tryd.prog 25 #[.pointer (some ⟨U, 0, none⟩)] W fun e w' => ∃ a, e = .returned (.tuple #[.pointer a, .bool true]) ∧ ∃ b, a = some ⟨b, 0, none⟩ ∧ RdS w U s g2 w' p ∧ NdAt w' (Fresh w.heap.size w'.heap.size) x b) := HEI.out
      clear HEI hr
      dsimp only
      cases h41 : seesB s p 41 with
      | false =>
        rw [if_neg (by simp)]
        have HK3 := skip_no (w := w) (U := U) (g := g2) 41 h41 hsm
        clear h41
        go_enter Tryd.func53, Tryd.ntmps53
        go_wp2_with (first
          | (go_at_call 33; refine (HK.out _ HS.out).mono ?_; clear HK HS; rintro e w1 ⟨rfl, hl⟩; have HS : Hid (RdS w U s g w1 i) := hl; clear hl; have c2 := HS.out.rd.c2; have f2 := HS.out.rd.f2)
          | (go_at_call 25; refine (HE2.out _ (HS.out.group (g + 1) (by go_num))).mono ?_; clear HE2 HS c2 f2; rintro e w3 ⟨a, rfl, b, rfl, hl, hnd⟩; have HS : Hid (RdS w U s g2 w3 p) := hl; clear hl hnd)
          | (go_at_call 33; refine (HK3.out _ HS.out).mono ?_; clear HK3 HS; rintro e w4 ⟨rfl, hl⟩; have HS : Hid (RdS w U s g2 w4 p) := hl; clear hl))
        go_ret2
        exact ⟨_, rfl, _, HS.out⟩
      | true =>
        rw [if_pos rfl]
        have HK3 : Hid (∀ b, Hid _) := fun b => skip_nd (w := w) (U := U) (g := g2) (y := x) (b := b) 41 h41 (over_yes h41) hU hsm
        clear h41
        have hz2 := sizeN_top x
        have HZ : Hid (∀ W F b, NdAt W F x b → W.cell? ⟨b, 7, none⟩ = some (.int .i64 (sizeN x))) := fun W F b h => cell7 h
        have HN : Hid (∀ W b gz sz, NdAt W (Fresh w.heap.size W.heap.size) x b → w.heap.size ≤ W.heap.size → gz = ((g + 1 : Nat) : Int) → sz = capN (sizeN x + 2) → NdAt ((W.alloc (.cells #[.pointer (some ⟨b, 0, none⟩)] 59)).alloc (.cells #[.int .i64 5, .slice none 0 0, .slice (some ⟨W.heap.size, 0, none⟩) 1 1, .int .i64 gz, .int .i64 0, .int .i64 0, .bool false, .int .i64 sz] 65)) (Fresh w.heap.size ((W.alloc (.cells #[.pointer (some ⟨b, 0, none⟩)] 59)).alloc (.cells #[.int .i64 5, .slice none 0 0, .slice (some ⟨W.heap.size, 0, none⟩) 1 1, .int .i64 gz, .int .i64 0, .int .i64 0, .bool false, .int .i64 sz] 65)).heap.size) (.group (g + 1) x) (W.heap.size + 1)) := fun W b gz sz hx hS hg hz => nd_group hx hS hg hz
        generalize sizeN x = Z at *
        go_enter Tryd.func53, Tryd.ntmps53
        go_wp2_with (first
          | (go_at_call 33; refine (HK.out _ HS.out).mono ?_; clear HK HS; rintro e w1 ⟨rfl, hl⟩; have HS : Hid (RdS w U s g w1 i) := hl; clear hl; have c2 := HS.out.rd.c2; have f2 := HS.out.rd.f2)
          | (go_at_call 25; refine (HE2.out _ (HS.out.group (g + 1) (by go_num))).mono ?_; clear HE2 HS c2 f2; rintro e w3 ⟨a, rfl, b, rfl, hl, hnd⟩; have HX : Hid (RdS w U s g2 w3 p ∧ NdAt w3 (Fresh w.heap.size w3.heap.size) x b) := ⟨hl, hnd⟩; clear hl hnd)
          | (go_at_call 33; refine ((HK3.out b).out _ HX.out.1 HX.out.2).mono ?_; clear HK3 HX; rintro e w4 ⟨rfl, hl, hnd⟩; have HX : Hid (RdS w U s g2 w4 (p + 1) ∧ NdAt w4 (Fresh w.heap.size w4.heap.size) x b) := ⟨hl, hnd⟩; have z7 : (w4.alloc (.cells #[.pointer (some ⟨b, 0, none⟩)] 59)).cell? ⟨b, 7, none⟩ = some (.int .i64 Z) := (World.cell?_of_block (Below.heap_alloc _ _ _ hnd.foot.2)).trans (HZ.out _ _ _ hnd); clear hl hnd)
          | (go_at_call 34; refine (HC.out _ _ (Z + 2) (by first | rfl | (simp only [IntKind.wrap_i64]; omega)) (by omega) (by omega)).mono ?_; rintro e w5 ⟨rfl, rfl⟩))
        go_ret2
        exact ⟨_, rfl, _, rfl, (HX.out.1.made _).made _, HN.out _ _ _ _ HX.out.2 HX.out.1.size (by go_num) rfl⟩
end Go.Proofs.YtmbkcmfcdjccoaaDoor
