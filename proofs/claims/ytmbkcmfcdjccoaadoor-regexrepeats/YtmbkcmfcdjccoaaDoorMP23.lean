/- Texts that belong together. -/
import Derived.Test.YtmbkcmfcdjccoaaDoorMP22
/- The reader of an expression: alternatives. -/
namespace Go.Proofs.YtmbkcmfcdjccoaaDoor
open Go.RowKit Go.Maps

/-- The node of two alternatives. -/
theorem nd_either {W : World} {S0 b c : Nat} {x y : Nd} {sz : Int} (hx : NdAt W (Fresh S0 W.heap.size) x b) (hy : NdAt W (Fresh S0 W.heap.size) y c) (hS : S0 ≤ W.heap.size) (hz : sz = capN (sizeN x + sizeN y + 2)) :
    NdAt ((W.alloc (.cells #[.pointer (some ⟨b, 0, none⟩), .pointer (some ⟨c, 0, none⟩)] 59)).alloc (.cells #[.int .i64 4, .slice none 0 0, .slice (some ⟨W.heap.size, 0, none⟩) 2 2, .int .i64 0, .int .i64 0, .int .i64 0, .bool false, .int .i64 sz] 65)) (Fresh S0 ((W.alloc (.cells #[.pointer (some ⟨b, 0, none⟩), .pointer (some ⟨c, 0, none⟩)] 59)).alloc (.cells #[.int .i64 4, .slice none 0 0, .slice (some ⟨W.heap.size, 0, none⟩) 2 2, .int .i64 0, .int .i64 0, .int .i64 0, .bool false, .int .i64 sz] 65)).heap.size) (.either x y) (W.heap.size + 1) := by
  have hs1 : (W.alloc (.cells #[.pointer (some ⟨b, 0, none⟩), .pointer (some ⟨c, 0, none⟩)] 59)).heap.size = W.heap.size + 1 := by simp
  generalize hN : Obj.cells #[Value.int .i64 4, .slice none 0 0, .slice (some ⟨W.heap.size, 0, none⟩) 2 2, .int .i64 0, .int .i64 0, .int .i64 0, .bool false, .int .i64 sz] 65 = N
  have hs2 : ((W.alloc (.cells #[.pointer (some ⟨b, 0, none⟩), .pointer (some ⟨c, 0, none⟩)] 59)).alloc N).heap.size = W.heap.size + 2 := by simp
  have hb2 : ∀ j, j < W.heap.size → ((W.alloc (.cells #[.pointer (some ⟨b, 0, none⟩), .pointer (some ⟨c, 0, none⟩)] 59)).alloc N).heap[j]? = W.heap[j]? := fun j hj => (Below.heap_alloc _ _ _ (by omega)).trans (Below.heap_alloc _ _ _ (by omega))
  rw [hs2]
  unfold NdAt
  refine ⟨⟨by omega, by omega⟩, .slice (some ⟨W.heap.size, 0, none⟩) 2 2, b, c, ?_, ⟨⟨rfl, Or.inr ⟨W.heap.size, 2, #[ptrV b, ptrV c], rfl, Nat.zero_le _, ?_, Nat.le_refl _, by decide, rfl, rfl⟩⟩, fun j hj => ?_⟩, NdAt.to (fun j hj => ⟨hj.1, by have := hj.2; omega⟩) (fun j hj => hb2 j hj.2) x b hx, NdAt.to (fun j hj => ⟨hj.1, by have := hj.2; omega⟩) (fun j hj => hb2 j hj.2) y c hy⟩
  · unfold NodeB
    rw [← hs1, heap_alloc_new, ← hN, hz, sizeN_either]
  · rw [Below.heap_alloc _ _ _ (by omega)]
    exact heap_alloc_new _ _
  · have hj2 : some W.heap.size = some j := hj
    injection hj2 with hj2
    exact ⟨by omega, by omega⟩
theorem NdAt.drew {W : World} {F : Nat → Prop} {x : Nd} {b : Nat} (h : NdAt W F x b) : NdAt W.drew F x b := NdAt.to (w := W) (W := W.drew) (fun _ h => h) (fun _ _ => rfl) _ _ h
theorem PtQ.keeps {w w' : World} {U : Nat} {s : ByteArray} {R : Pt Nd} {x : Option Addr} (h : PtQ w U s R x w') : Kept (fun k => k = U) w w' := by
  cases R with
  | no q => obtain ⟨g, h2⟩ := h; exact h2.kept
  | yes y q g => obtain ⟨b, _, h2, _⟩ := h; exact h2.kept
/-- Parts are read while another lies behind the reader. -/
theorem PtC.keep {f : FuncId} {s : ByteArray} {i g : Nat} {R : Pt Nd} (hC : PtC f s i g R) {w : World} {U B : Nat} (hE : Env8 w B) (hB : B ≤ U) (hU : U < w.heap.size) : Hid (∀ W y b, RdS w U s g W i → NdAt W (Fresh w.heap.size W.heap.size) y b → Calls Tryd.prog f #[.pointer (some ⟨U, 0, none⟩)] W fun e w' => ∃ x, e = .returned (.tuple #[.pointer x, .bool (okT R)]) ∧ PtQ w U s R x w' ∧ NdAt w' (Fresh w.heap.size w'.heap.size) y b) := fun W y b hW hy =>
  (hC U B W hW.rd (hE.kept hW.kept hB (by omega)) hB).mono (fun e w' h => by
    obtain ⟨x, he, hq⟩ := h
    exact ⟨x, he, hq.on hW, hy.kept hq.keeps hU⟩)

set_option maxRecDepth 100000 in
set_option maxHeartbeats 8000000 in
theorem either_next {s : ByteArray} {n : Nat} (hRw : ∀ i g, i ≤ s.size → g ≤ i → 5 * (s.size - i) + 1 ≤ n → PtC 32 s i g (rowR s n i g [])) (hEi : ∀ i g, i ≤ s.size → g ≤ i → 5 * (s.size - i) + 2 ≤ n → PtC 25 s i g (eitherR s n i g)) (hs : s.size ≤ 10000) :
    ∀ i g, i ≤ s.size → g ≤ i → 5 * (s.size - i) + 2 ≤ n + 1 → PtC 25 s i g (eitherR s (n + 1) i g) := by
  intro i g hi hg hn U B w h hE hB
  have hU := h.lt
  have hsm : s.size ≤ 1000000 := by omega
  have HS : Hid (RdS w U s g w i) := RdS.start h
  rw [either_one]
  have HRW := (hRw i g hi hg (by omega)).is hE hB (by omega)
  have hok := (allOk s n).row i g [] hi hg (by unfold WfsN; trivial)
  clear hRw
  cases hr : rowR s n i g [] with
  | no q =>
    rw [hr] at HRW
    have HR2 : Hid (∀ W, RdS w U s g W i → Calls Tryd.prog 32 #[.pointer (some ⟨U, 0, none⟩)] W fun e w' => ∃ x, e = .returned (.tuple #[.pointer x, .bool false]) ∧ PtQ w U s (.no q) x w') := HRW.out
    clear HRW hr hok h hE hEi
    dsimp only
    go_enter Tryd.func25, Tryd.ntmps25
    go_wp2_with (go_at_call 32; refine (HR2.out _ HS.out).mono ?_; clear HR2 HS; rintro e w3 ⟨x, rfl, hl⟩; have HQ : Hid (PtQ w U s (.no q) x w3) := hl; clear hl)
    go_ret2
    exact ⟨_, rfl, HQ.out⟩
  | yes x p g2 =>
    rw [hr] at HRW hok
    obtain ⟨o1, o2, o3, o4⟩ := hok
    have o5 := wf_size x o4
    clear o4
    have HR2 : Hid (∀ W, RdS w U s g W i → Calls Tryd.prog 32 #[.pointer (some ⟨U, 0, none⟩)] W fun e w' => ∃ a, e = .returned (.tuple #[.pointer a, .bool true]) ∧ ∃ b, a = some ⟨b, 0, none⟩ ∧ RdS w U s g2 w' p ∧ NdAt w' (Fresh w.heap.size w'.heap.size) x b) := HRW.out
    clear HRW hr
    dsimp only
    cases h124 : seesB s p 124 with
    | false =>
      rw [if_pos rfl]
      have HK3 : Hid (∀ b, Hid _) := fun b => skip_nd (w := w) (U := U) (g := g2) (y := x) (b := b) 124 h124 (over_no h124) hU hsm
      clear h124 h hE hEi
      go_enter Tryd.func25, Tryd.ntmps25
      go_wp2_with (first
        | (go_at_call 32; refine (HR2.out _ HS.out).mono ?_; clear HR2 HS; rintro e w3 ⟨a, rfl, b, rfl, hl, hnd⟩; have HX : Hid (RdS w U s g2 w3 p ∧ NdAt w3 (Fresh w.heap.size w3.heap.size) x b) := ⟨hl, hnd⟩; clear hl hnd)
        | (go_at_call 33; refine ((HK3.out b).out _ HX.out.1 HX.out.2).mono ?_; clear HK3 HX; rintro e w4 ⟨rfl, hl, hnd⟩; have HX : Hid (RdS w U s g2 w4 p ∧ NdAt w4 (Fresh w.heap.size w4.heap.size) x b) := ⟨hl, hnd⟩; clear hl hnd))
      go_ret2
      exact ⟨_, rfl, _, rfl, HX.out.1, HX.out.2⟩
    | true =>
      rw [if_neg (by simp)]
      have HK3 : Hid (∀ b, Hid _) := fun b => skip_nd (w := w) (U := U) (g := g2) (y := x) (b := b) 124 h124 (over_yes h124) hU hsm
      have hlt := seesB_lt h124
      have HEI := (hEi (p + 1) g2 hlt (by omega) (by omega)).keep hE hB hU
      have hok2 := (allOk s n).either (p + 1) g2 hlt (by omega)
      clear h124 h hE hEi
      cases hq : eitherR s n (p + 1) g2 with
      | no q =>
        rw [hq] at HEI
        have HE2 : Hid (∀ W y b, RdS w U s g2 W (p + 1) → NdAt W (Fresh w.heap.size W.heap.size) y b → Calls Tryd.prog 25 #[.pointer (some ⟨U, 0, none⟩)] W fun e w' => ∃ x, e = .returned (.tuple #[.pointer x, .bool false]) ∧ PtQ w U s (.no q) x w' ∧ NdAt w' (Fresh w.heap.size w'.heap.size) y b) := HEI.out
        clear HEI hq hok2
        dsimp only
        go_enter Tryd.func25, Tryd.ntmps25
        go_wp2_with (first
          | (go_at_call 32; refine (HR2.out _ HS.out).mono ?_; clear HR2 HS; rintro e w3 ⟨a, rfl, b, rfl, hl, hnd⟩; have HX : Hid (RdS w U s g2 w3 p ∧ NdAt w3 (Fresh w.heap.size w3.heap.size) x b) := ⟨hl, hnd⟩; clear hl hnd)
          | (go_at_call 33; refine ((HK3.out b).out _ HX.out.1 HX.out.2).mono ?_; clear HK3 HX; rintro e w4 ⟨rfl, hl, hnd⟩; have HX : Hid (RdS w U s g2 w4 (p + 1) ∧ NdAt w4 (Fresh w.heap.size w4.heap.size) x b) := ⟨hl, hnd⟩; clear hl hnd)
          | (go_at_call 25; refine (HE2.out _ _ _ HX.out.1 HX.out.2).mono ?_; clear HE2 HX; rintro e w5 ⟨a, rfl, hl, hnd⟩; have HQ : Hid (PtQ w U s (.no q) a w5) := hl; clear hl hnd))
        go_ret2
        exact ⟨_, rfl, HQ.out⟩
      | yes y q g3 =>
        rw [hq] at HEI hok2
        obtain ⟨u1, u2, u3, u4⟩ := hok2
        have u5 := wf_size y u4
        clear u4
        have HE2 : Hid (∀ W y2 b, RdS w U s g2 W (p + 1) → NdAt W (Fresh w.heap.size W.heap.size) y2 b → Calls Tryd.prog 25 #[.pointer (some ⟨U, 0, none⟩)] W fun e w' => ∃ a, e = .returned (.tuple #[.pointer a, .bool true]) ∧ (∃ c, a = some ⟨c, 0, none⟩ ∧ RdS w U s g3 w' q ∧ NdAt w' (Fresh w.heap.size w'.heap.size) y c) ∧ NdAt w' (Fresh w.heap.size w'.heap.size) y2 b) := HEI.out
        clear HEI hq
        dsimp only
        have HC := capped_is
        have hz2 := sizeN_top x
        have hz3 := sizeN_top y
        have HZ : Hid (∀ W F b, NdAt W F x b → W.cell? ⟨b, 7, none⟩ = some (.int .i64 (sizeN x))) := fun W F b h => cell7 h
        have HZ2 : Hid (∀ W F b, NdAt W F y b → W.cell? ⟨b, 7, none⟩ = some (.int .i64 (sizeN y))) := fun W F b h => cell7 h
        have HN : Hid (∀ W b c sz, NdAt W (Fresh w.heap.size W.heap.size) x b → NdAt W (Fresh w.heap.size W.heap.size) y c → w.heap.size ≤ W.heap.size → sz = capN (sizeN x + sizeN y + 2) → NdAt ((W.alloc (.cells #[.pointer (some ⟨b, 0, none⟩), .pointer (some ⟨c, 0, none⟩)] 59)).alloc (.cells #[.int .i64 4, .slice none 0 0, .slice (some ⟨W.heap.size, 0, none⟩) 2 2, .int .i64 0, .int .i64 0, .int .i64 0, .bool false, .int .i64 sz] 65)) (Fresh w.heap.size ((W.alloc (.cells #[.pointer (some ⟨b, 0, none⟩), .pointer (some ⟨c, 0, none⟩)] 59)).alloc (.cells #[.int .i64 4, .slice none 0 0, .slice (some ⟨W.heap.size, 0, none⟩) 2 2, .int .i64 0, .int .i64 0, .int .i64 0, .bool false, .int .i64 sz] 65)).heap.size) (.either x y) (W.heap.size + 1)) := fun W b c sz hx hy hS hz => nd_either hx hy hS hz
        generalize sizeN x = Z at *
        generalize sizeN y = Z2 at *
        go_enter Tryd.func25, Tryd.ntmps25
        go_wp2_with (first
          | (go_at_call 32; refine (HR2.out _ HS.out).mono ?_; clear HR2 HS; rintro e w3 ⟨a, rfl, b, rfl, hl, hnd⟩; have HX : Hid (RdS w U s g2 w3 p ∧ NdAt w3 (Fresh w.heap.size w3.heap.size) x b) := ⟨hl, hnd⟩; clear hl hnd)
          | (go_at_call 33; refine ((HK3.out b).out _ HX.out.1 HX.out.2).mono ?_; clear HK3 HX; rintro e w4 ⟨rfl, hl, hnd⟩; have HX : Hid (RdS w U s g2 w4 (p + 1) ∧ NdAt w4 (Fresh w.heap.size w4.heap.size) x b) := ⟨hl, hnd⟩; clear hl hnd)
          | (go_at_call 25; refine (HE2.out _ _ _ HX.out.1 HX.out.2).mono ?_; clear HE2 HX; rintro e w5 ⟨a, rfl, ⟨c, rfl, hl, hnd⟩, hne⟩; have HX : Hid (RdS w U s g3 w5 q ∧ NdAt w5 (Fresh w.heap.size w5.heap.size) x b ∧ NdAt w5 (Fresh w.heap.size w5.heap.size) y c) := ⟨hl, hne, hnd⟩; have z7 := HZ.out _ _ _ hne; have z8 := HZ2.out _ _ _ hnd; clear hl hnd hne))
        have HLE : Hid (b < w5.heap.size ∧ c < w5.heap.size) := ⟨HX.out.2.1.foot.2, HX.out.2.2.foot.2⟩
        have hbl := HLE.out.1
        have hcl := HLE.out.2
        go_region_held3 (fun X => X.cell? ⟨b, 7, none⟩ = some (.int .i64 Z) ∧ X.cell? ⟨c, 7, none⟩ = some (.int .i64 Z2))
          (first | go_keep | exact ⟨(World.cell?_of_block (Below.heap_alloc _ _ _ HLE.out.1)).trans z7, (World.cell?_of_block (Below.heap_alloc _ _ _ HLE.out.2)).trans z8⟩ | exact ⟨(World.cell?_of_block (Below.heap_alloc _ _ _ (Nat.lt_trans HLE.out.1 (by simp)))).trans ((World.cell?_of_block (Below.heap_alloc _ _ _ HLE.out.1)).trans z7), (World.cell?_of_block (Below.heap_alloc _ _ _ (Nat.lt_trans HLE.out.2 (by simp)))).trans ((World.cell?_of_block (Below.heap_alloc _ _ _ HLE.out.2)).trans z8)⟩)
          (first | (go_at_call 34; refine (HC.out _ _ (Z + Z2 + 2) (by first | rfl | (simp only [IntKind.wrap_i64]; omega)) (by omega) (by omega)).mono ?_; rintro e w6 ⟨rfl, rfl⟩))
        all_goals
          go_wp2
          go_ret2
          exact ⟨_, rfl, _, rfl, ((HX.out.1.made _).made _).drewN _, (HN.out _ _ _ (capN (Z + Z2 + 2)) HX.out.2.1 HX.out.2.2 HX.out.1.size rfl).drew⟩
end Go.Proofs.YtmbkcmfcdjccoaaDoor

/- The reader of an expression: rows of parts. -/
namespace Go.Proofs.YtmbkcmfcdjccoaaDoor
open Go.RowKit Go.Maps

theorem ownsRow_heap {w W : World} {base k n : Nat} {e : TypeId} {v : Value} {xs : List Value} (h : w.ownsRow base e k v n xs) (hb : ∀ b, v.ownBlock = some b → W.heap[b]? = w.heap[b]?) : W.ownsRow base e k v n xs := by
  refine ⟨h.1, ?_⟩
  rcases h.2 with h1 | ⟨g, cap, cur, e1, h2, h3, h4⟩
  · exact Or.inl h1
  · exact Or.inr ⟨g, cap, cur, e1, h2, (hb g (by rw [e1]; rfl)).trans h3, h4⟩
theorem appNd : App Tryd.prog 63 59 1 := App.of (z := .pointer none) (bytes := 8) Tryd.underlying63 (by kernel_rfl) rfl (by decide) (by decide)
/-- A row under way: the reader, its node, its parts. -/
structure RwS (w : World) (U : Nat) (s : ByteArray) (g : Nat) (W : World) (j : Nat) (va : Option Addr) (k cc : Nat) (acc : List Nd) (ps : List Nat) : Prop where
  rs : RdS w U s g W j
  node : NodeB W w.heap.size 3 (.slice none 0 0) (.slice va k cc) 0 0 0 false (sizesN acc 0)
  row : W.ownsRow (w.heap.size + 1) 59 1 (.slice va k cc) k (ps.map ptrV)
  nds : NdsAt W (fun b => Fresh (w.heap.size + 1) W.heap.size b ∧ (Value.slice va k cc).ownBlock ≠ some b) acc ps
  few : k ≤ j
  pos : 0 ≤ sizesN acc 0
section
variable {w W W' : World} {U : Nat} {s : ByteArray} {g g' j j' k cc : Nat} {va : Option Addr} {acc : List Nd} {ps : List Nat}
theorem RwS.start (h : RdAt w U s j g) : RwS w U s g (w.alloc (.cells #[.int .i64 3, .slice none 0 0, .slice none 0 0, .int .i64 0, .int .i64 0, .int .i64 0, .bool false, .int .i64 0] 65)) j none 0 0 [] [] :=
  ⟨(RdS.start h).made _, heap_alloc_new _ _, World.ownsRow_nil _ _ _ _, by unfold NdsAt; rfl, Nat.zero_le _, Int.le_refl _⟩
theorem RwS.lt (H : RwS w U s g W j va k cc acc ps) : w.heap.size < W.heap.size := (Array.getElem?_eq_some_iff.1 H.node).1
theorem RwS.to (H : RwS w U s g W j va k cc acc ps) (hU : U < w.heap.size) (hr : RdAt W' U s j' g') (hk : Kept (fun b => b = U) W W') (hj : j ≤ j') : RwS w U s g' W' j' va k cc acc ps :=
  ⟨⟨hr, H.rs.kept.two hk⟩, (hk.block _ H.lt (by omega)).trans H.node, hk.ownsRow H.row (fun b hb e => by have := (H.row.lt b hb).1; omega), NdsAt.to (fun b hb => ⟨⟨hb.1.1, Nat.lt_of_lt_of_le hb.1.2 hk.size⟩, hb.2⟩) (fun b hb => hk.block b hb.1.2 (fun (e : b = U) => by have := hb.1.1; omega)) _ _ H.nds, Nat.le_trans H.few hj, H.pos⟩
theorem RwS.drewN (H : RwS w U s g W j va k cc acc ps) (q : Nat) : RwS w U s g (W.drewN q) j va k cc acc ps := ⟨H.rs.drewN q, H.node, H.row, NdsAt.to (w := W) (W := W.drewN q) (fun _ h => h) (fun _ _ => rfl) _ _ H.nds, H.few, H.pos⟩
theorem RwS.n2 (H : RwS w U s g W j va k cc acc ps) : W.cell? ⟨w.heap.size, 2, none⟩ = some (.slice va k cc) := by rw [cell_of_heap H.node]; rfl
theorem RwS.n7 (H : RwS w U s g W j va k cc acc ps) : W.cell? ⟨w.heap.size, 7, none⟩ = some (.int .i64 (sizesN acc 0)) := by rw [cell_of_heap H.node]; rfl
theorem RwS.fr (H : RwS w U s g W j va k cc acc ps) (i : Nat) : W.frozen? ⟨w.heap.size, i, none⟩ = false := frozen_of_heap H.node
theorem RwS.len (H : RwS w U s g W j va k cc acc ps) : ps.length = k := by
  have := H.row.1
  simpa using this
/-- The row is told. -/
theorem RwS.nd (H : RwS w U s g W j va k cc acc ps) : NdAt W (Fresh w.heap.size W.heap.size) (.row acc) w.heap.size := by
  unfold NdAt
  refine ⟨⟨Nat.le_refl _, H.lt⟩, .slice va k cc, ps, ?_, ⟨?_, fun b hb => ?_⟩, NdsAt.to (fun b hb => ⟨by have := hb.1.1; omega, hb.1.2⟩) (fun b hb => rfl) _ _ H.nds⟩
  · have h9 := H.node
    unfold sizeN
    exact h9
  · rw [H.len]
    exact row_mono H.row (Nat.zero_le _)
  · have h9 := H.row.lt b hb
    exact ⟨by omega, h9.2⟩
/-- One part more. -/
theorem RwS.push (H : RwS w U s g W j va k cc acc ps) (hU : U < w.heap.size) {o : Obj} {W5 : World} {x : Nd} {b : Nat} {a5 : Option Addr} {c5 : Nat} (hx : NdAt W (fun b' => Fresh (w.heap.size + 1) W.heap.size b' ∧ (Value.slice va k cc).ownBlock ≠ some b') x b) (hr5 : W5.ownsRow (w.heap.size + 1) 59 1 (.slice a5 (k + 1) c5) (k + 1) (ps.map ptrV ++ [ptrV b])) (hg : (W.alloc o).grownBy W5 (Value.slice va k cc).ownBlock) (hb : (Value.slice a5 (k + 1) c5).ownBlock = (Value.slice va k cc).ownBlock ∨ (Value.slice a5 (k + 1) c5).ownBlock = some (W.alloc o).heap.size) (hj : k + 1 ≤ j) (h0 : 0 ≤ sizeN x) {v2 v7 : Value} (h2 : v2 = .slice a5 (k + 1) c5) (h7 : v7 = .int .i64 (capN (sizesN acc 0 + sizeN x))) :
    RwS w U s g ((W5.setCell ⟨w.heap.size, 2, none⟩ v2).setCell ⟨w.heap.size, 7, none⟩ v7) j a5 (k + 1) c5 (acc ++ [x]) (ps ++ [b]) := by
  subst h2 h7
  have hl := H.lt
  have hs1 : (W.alloc o).heap.size = W.heap.size + 1 := by simp
  have hob : ∀ q, (Value.slice va k cc).ownBlock = some q → w.heap.size + 1 ≤ q := fun q hq => (H.row.lt q hq).1
  have hw5 : ∀ q, q < W.heap.size → (Value.slice va k cc).ownBlock ≠ some q → W5.heap[q]? = W.heap[q]? := fun q hq hn => (hg.block q (by omega) (fun e => hn e.symm)).trans (Below.heap_alloc _ _ _ (by omega))
  have hn5 : NodeB W5 w.heap.size 3 (.slice none 0 0) (.slice va k cc) 0 0 0 false (sizesN acc 0) := (hw5 _ hl (fun e => by have := hob _ e; omega)).trans H.node
  have hsz : W5.heap.size = ((W5.setCell ⟨w.heap.size, 2, none⟩ (.slice a5 (k + 1) c5)).setCell ⟨w.heap.size, 7, none⟩ (.int .i64 (capN (sizesN acc 0 + sizeN x)))).heap.size := by simp
  have hoth : ∀ q, q ≠ w.heap.size → ((W5.setCell ⟨w.heap.size, 2, none⟩ (.slice a5 (k + 1) c5)).setCell ⟨w.heap.size, 7, none⟩ (.int .i64 (capN (sizesN acc 0 + sizeN x)))).heap[q]? = W5.heap[q]? := fun q hq => by rw [Below.heap_setCell _ _ _ _ (by exact hq), Below.heap_setCell _ _ _ _ (by exact hq)]
  have hnode : NodeB ((W5.setCell ⟨w.heap.size, 2, none⟩ (.slice a5 (k + 1) c5)).setCell ⟨w.heap.size, 7, none⟩ (.int .i64 (capN (sizesN acc 0 + sizeN x)))) w.heap.size 3 (.slice none 0 0) (.slice a5 (k + 1) c5) 0 0 0 false (sizesN (acc ++ [x]) 0) := by
    unfold NodeB
    have e1 := heap_setCell_same (i := 2) (v := .slice a5 (k + 1) c5) hn5
    have e2 := heap_setCell_same (i := 7) (v := .int .i64 (capN (sizesN acc 0 + sizeN x))) e1
    rw [e2, sizesN_push]
    rfl
  have hg5 : W.heap.size + 1 ≤ W5.heap.size := by have := hg.size; omega
  have hk7 : Kept (fun b => b = U) w ((W5.setCell ⟨w.heap.size, 2, none⟩ (.slice a5 (k + 1) c5)).setCell ⟨w.heap.size, 7, none⟩ (.int .i64 (capN (sizesN acc 0 + sizeN x)))) := (((H.rs.made o).kept.grown hg (fun q hq e => by have := hob q e; omega)).setCell (p := ⟨w.heap.size, 2, none⟩) (fun h9 => absurd h9 (Nat.lt_irrefl _)) _).setCell (p := ⟨w.heap.size, 7, none⟩) (fun h9 => absurd h9 (Nat.lt_irrefl _)) _
  generalize ((W5.setCell ⟨w.heap.size, 2, none⟩ (.slice a5 (k + 1) c5)).setCell ⟨w.heap.size, 7, none⟩ (.int .i64 (capN (sizesN acc 0 + sizeN x)))) = W7 at *
  have hin : ∀ q, Fresh (w.heap.size + 1) W.heap.size q ∧ (Value.slice va k cc).ownBlock ≠ some q → Fresh (w.heap.size + 1) W7.heap.size q ∧ (Value.slice a5 (k + 1) c5).ownBlock ≠ some q := fun q hq => by
    have q1 := hq.1.1
    have q2 := hq.1.2
    refine ⟨⟨q1, by omega⟩, fun e => ?_⟩
    rcases hb with hb | hb
    · exact hq.2 (hb.symm.trans e)
    · rw [hb] at e
      injection e with e
      omega
  have hsame : ∀ q, Fresh (w.heap.size + 1) W.heap.size q ∧ (Value.slice va k cc).ownBlock ≠ some q → W7.heap[q]? = W.heap[q]? := fun q hq => (hoth q (by have := hq.1.1; omega)).trans (hw5 q hq.1.2 hq.2)
  refine ⟨⟨(hoth U (by omega)).trans ((hw5 U (by omega) (fun e => by have := hob _ e; omega)).trans H.rs.rd), hk7⟩, hnode, ?_, NdsAt.push _ _ _ _ (NdsAt.to hin hsame _ _ H.nds) (NdAt.to hin hsame _ _ hx), hj, ?_⟩
  · rw [List.map_append]
    exact ownsRow_heap hr5 (fun q hq => hoth q (by have := (hr5.lt q hq).1; omega))
  · rw [sizesN_push]
    have := H.pos
    unfold capN
    omega
end
end Go.Proofs.YtmbkcmfcdjccoaaDoor
