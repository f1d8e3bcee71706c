/- wakes. -/
import Derived.Test.YtkmclgbiedbfpaaDoorKk
namespace Go.Proofs.YtkmclgbiedbfpaaDoor
open Go.RowKit Go.Shelf Go.Maps

def wkL : List Sm := [(1, 4607182418800017408), (1001, 4607182418800017408)]
theorem wk_bits : 16 + (encB wkL).length = 161 := by kernel_rfl
theorem wk_len : (encR wkL).length ≤ 100000 := by
  have : (encR wkL).length = 21 := by kernel_rfl
  omega
theorem SmpAt.of_block {w : World} {g : Nat} {l : List Sm} {t : TypeId} {fr : Nat × Nat} (h : w.heap[g]? = some (.cells (smCells l).toArray t fr)) (hl : l.length ≤ maxLen) : SmpAt w (.slice (some ⟨g, 0, none⟩) l.length l.length) l := by
  refine ⟨some ⟨g, 0, none⟩, l.length, rfl, ⟨Nat.le_refl _, hl⟩, (fun e9 => by cases e9), fun k hk => ⟨g, 0, rfl, (Array.getElem?_eq_some_iff.1 h).1, ?_, ?_⟩⟩
  · have := World.news_of_block h (k * 2) _ (smCells_at l k hk).1
    rw [Addr.add_lit, Nat.zero_add] at this
    rw [Nat.zero_add]
    exact this
  · have := World.news_of_block h (k * 2 + 1) _ (smCells_at l k hk).2
    rw [Addr.add_lit, Nat.zero_add] at this
    rw [Nat.zero_add]
    exact this
theorem decode_enc (v : Value) (l : List Sm) (w : World) (h : BytesAt w v (encR l)) (hl : l.length ≤ 120) (hL : Laid w w.heap.size) :
    Calls Tryd.prog 20 #[v] w fun e w' => ∃ v', e = .returned (.tuple #[v', .int .i64 0]) ∧ w'.ownsRow w.heap.size 35 2 v' l.length (smCells l) ∧ Below w.heap.size w w' := by
  have he : (encR l).length ≤ 100000 := by
    have h1 := encB_length l
    have h2 := pk_length (encB l)
    unfold encR
    simp only [List.length_cons, h2]
    omega
  refine (decode_any v (encR l) w h he hL).mono (fun e w' h9 => ?_)
  have hd := decR_enc l (by omega)
  rw [hd, if_pos ⟨hl, rfl⟩] at h9
  obtain ⟨h1, v', h2, h3⟩ := h9
  exact ⟨v', h2, h3, h1⟩

set_option maxRecDepth 100000 in
set_option maxHeartbeats 2000000 in
theorem wakes_any (w : World) (hL : Laid w w.heap.size) : Calls Tryd.prog 19 #[] w fun e w' => e = .returned (.bool true) ∧ Below w.heap.size w w' := by
  have hb0 : Below w.heap.size w (w.alloc (.cells #[.int .i64 1, .float .f64 4607182418800017408, .int .i64 1001, .float .f64 4607182418800017408] 35 (0, 0))) := (Below.refl _ _).alloc (Nat.le_refl _) _
  have hS0 : SmpAt (w.alloc (.cells #[.int .i64 1, .float .f64 4607182418800017408, .int .i64 1001, .float .f64 4607182418800017408] 35 (0, 0))) (.slice (some ⟨w.heap.size, 0, none⟩) 2 2) wkL := SmpAt.of_block (l := wkL) (heap_alloc_new w _) (by decide)
  have henc := encode_any _ wkL _ hS0 (by decide) ((hL.below hb0).mono hb0.size)
  have hbs := hb0.size
  have HB0 : Hid (Below w.heap.size w (w.alloc (.cells #[.int .i64 1, .float .f64 4607182418800017408, .int .i64 1001, .float .f64 4607182418800017408] 35 (0, 0)))) := hb0
  have HL : Hid (Laid w w.heap.size) := hL
  have HDEC : Hid (∀ W v, BytesAt W v (encR wkL) → Below w.heap.size w W → Calls Tryd.prog 20 #[v] W fun e w' => ∃ v', e = .returned (.tuple #[v', .int .i64 0]) ∧ w'.ownsRow W.heap.size 35 2 v' 2 (smCells wkL) ∧ Below W.heap.size W w') := fun W v h1 h2 => decode_enc v wkL W h1 (by decide) ((hL.below h2).mono h2.size)
  have HBITS : Hid (∀ W v, SmpAt W v wkL → Below w.heap.size w W → Calls Tryd.prog 14 #[v] W fun e w' => e = .returned (.int .i64 161) ∧ Below W.heap.size W w') := fun W v h1 h2 => by
    have := bits_any v wkL W h1 (by decide) ((hL.below h2).mono h2.size)
    rw [wk_bits] at this
    exact this
  generalize encR wkL = raw at *
  clear hS0 hL hb0
  go_enter Tryd.func19, Tryd.ntmps19
  go_wp2_with (first
    | (go_at_call 11; refine henc.mono ?_; clear henc; rintro e w1 ⟨v1, rfl, hr1, hb1⟩; have hbw1 : Below w.heap.size w w1 := HB0.out.trans (hb1.mono hbs); obtain ⟨a1, c1, hv1⟩ := slice_of_row hr1; subst hv1; have hdec := HDEC.out w1 _ (BytesAt.of_row hr1) hbw1; have HBW1 : Hid (Below w.heap.size w w1) := hbw1; clear hr1 hb1 hbw1)
    | (go_at_call 20; refine hdec.mono ?_; clear hdec; rintro e w2 ⟨v2, rfl, hr2, hb2⟩; have hbw2 : Below w.heap.size w w2 := HBW1.out.trans (hb2.mono HBW1.out.size); obtain ⟨a2, c2, hv2⟩ := slice_of_row hr2; subst hv2; obtain ⟨g2, hg2⟩ := row_some hr2 (by omega); subst hg2; have k2 : w2.cell? ⟨g2, 2, none⟩ = some (.int .i64 1001) := (by have := hr2.cells (g := g2) rfl 2 (.int .i64 1001) rfl; rw [Addr.add_lit, Nat.zero_add] at this; exact this); have k3 : w2.cell? ⟨g2, 3, none⟩ = some (.float .f64 4607182418800017408) := (by have := hr2.cells (g := g2) rfl 3 (.float .f64 4607182418800017408) rfl; rw [Addr.add_lit, Nat.zero_add] at this; exact this); have hbits := HBITS.out w2 _ (SmpAt.of_row (l := wkL) hr2) hbw2; have HBW2 : Hid (Below w.heap.size w w2) := hbw2; clear hr2 hb2 hbw2)
    | (go_at_call 14; refine hbits.mono ?_; clear hbits; rintro e w3 ⟨rfl, hb3⟩))
  go_ret
  exact ⟨rfl, HBW2.out.trans (hb3.mono HBW2.out.size)⟩

end Go.Proofs.YtkmclgbiedbfpaaDoor
