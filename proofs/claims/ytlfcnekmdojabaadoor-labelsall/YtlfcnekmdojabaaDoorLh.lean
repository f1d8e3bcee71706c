/- wakes. -/
import Derived.Test.YtlfcnekmdojabaaDoorLd
import Derived.Test.YtlfcnekmdojabaaDoorLg
namespace Go.Proofs.YtlfcnekmdojabaaDoor
open Go.RowKit

def wkA : ByteArray := ⟨#[97]⟩
def wkB : ByteArray := ⟨#[98]⟩
def wkC : ByteArray := ⟨#[99]⟩
def wk1 : ByteArray := ⟨#[49]⟩
def wk2 : ByteArray := ⟨#[50]⟩
def wkE : ByteArray := ⟨#[]⟩
def wkL : List Lb := [(wkB, wk1), (wkA, wk2), (wkC, wkE)]
def wkS : List Lb := [(wkA, wk2), (wkB, wk1)]

theorem wk_new : newR wkL = (wkS, 0) := by kernel_rfl
theorem wk_text : textL wkS = [123, 97, 61, 34, 50, 34, 44, 98, 61, 34, 49, 34, 125] := by kernel_rfl
theorem wk_get : getL wkS wkB = wk1 := by kernel_rfl

theorem LabsAt.of_block {w : World} {g : Nat} {ls : List Lb} {t : TypeId} {fr : Nat × Nat} (h : w.heap[g]? = some (.cells (lbCells ls).toArray t fr)) (hl : ls.length ≤ maxLen) : LabsAt w (.slice (some ⟨g, 0, none⟩) ls.length ls.length) ls := by
  refine ⟨some ⟨g, 0, none⟩, ls.length, rfl, ⟨Nat.le_refl _, hl⟩, fun k hk => ⟨g, 0, rfl, (Array.getElem?_eq_some_iff.1 h).1, ?_, ?_⟩⟩
  · have := World.news_of_block h (k * 2) _ (lbCells_at ls k hk).1
    rw [Addr.add_lit, Nat.zero_add] at this
    rw [Nat.zero_add]
    exact this
  · have := World.news_of_block h (k * 2 + 1) _ (lbCells_at ls k hk).2
    rw [Addr.add_lit, Nat.zero_add] at this
    rw [Nat.zero_add]
    exact this

theorem wk_sized : Sized wkL := fun i h => by
  have h3 : i < 3 := h
  match i, h3 with
  | 0, _ => exact ⟨show wkB.size ≤ maxLen by decide, show wk1.size ≤ maxLen by decide⟩
  | 1, _ => exact ⟨show wkA.size ≤ maxLen by decide, show wk2.size ≤ maxLen by decide⟩
  | 2, _ => exact ⟨show wkC.size ≤ maxLen by decide, show wkE.size ≤ maxLen by decide⟩
theorem wk_short : Short wkS := fun i h => by
  have h3 : i < 2 := h
  match i, h3 with
  | 0, _ => exact ⟨show wkA.size ≤ 1024 by decide, show wk2.size ≤ 1024 by decide⟩
  | 1, _ => exact ⟨show wkB.size ≤ 1024 by decide, show wk1.size ≤ 1024 by decide⟩

set_option maxRecDepth 100000 in
set_option maxHeartbeats 2000000 in
theorem wakes_any (w : World) (hT : Tabs w) : Calls Tryd.prog 7 #[] w fun e w' => e = .returned (.bool true) ∧ Below w.heap.size w w' := by
  have hb0 : Below w.heap.size w (w.alloc (.cells #[.string wkB, .string wk1, .string wkA, .string wk2, .string wkC, .string wkE] 28 (0, 0))) := (Below.refl _ _).alloc (Nat.le_refl _) _
  have hL0 : LabsAt (w.alloc (.cells #[.string wkB, .string wk1, .string wkA, .string wk2, .string wkC, .string wkE] 28 (0, 0))) (.slice (some ⟨w.heap.size, 0, none⟩) 3 3) wkL := LabsAt.of_block (ls := wkL) (heap_alloc_new w _) (by decide)
  have hnew := new_any _ wkL _ hL0 (by decide) wk_sized (hT.below hb0)
  rw [wk_new] at hnew
  have hbs := hb0.size
  have HB0 : Hid (∀ w', Below (w.alloc (.cells #[.string wkB, .string wk1, .string wkA, .string wk2, .string wkC, .string wkE] 28 (0, 0))).heap.size (w.alloc (.cells #[.string wkB, .string wk1, .string wkA, .string wk2, .string wkC, .string wkE] 28 (0, 0))) w' → Below w.heap.size w w') := fun w' h => hb0.trans (h.mono hb0.size)
  clear hL0 hb0 hT
  have q1 : wkS.length = 2 := rfl
  have q2 : wkA.toList = [97] := by kernel_rfl
  have q3 := wk_text
  have q4 : getL wkS ⟨#[98]⟩ = wk1 := wk_get
  have q5 : wk1.toList = [49] := by kernel_rfl
  go_enter Tryd.func7, Tryd.ntmps7
  go_wp2_with (first
    | (go_at_call 12; refine hnew.mono ?_; rintro e w1 ⟨v1, rfl, hr1, hb1⟩; have hbw1 := HB0.out _ hb1; have hL1 := LabsAt.of_row hr1; obtain ⟨a1, c1, rfl, hlc1, hk1⟩ := id hL1; obtain ⟨g1, o1, rfl, hg1, hc10, -⟩ := hk1 0 (by decide); have hc0 : w1.cell? ⟨g1, o1, none⟩ = some (.string wkA) := hc10; clear hk1 hr1)
    | (go_at_call 13; refine (text_any _ wkS w1 hL1 (by decide) wk_short).mono ?_; rintro e w2 ⟨rfl, hb2⟩; have hL2 := hL1.below hb2; have hbw2 := hbw1.trans (hb2.mono hbw1.size))
    | (go_at_call 14; refine (get_any _ wkS ⟨#[98]⟩ w2 hL2 (by decide)).mono ?_; rintro e w3 ⟨rfl, hb3⟩; have hbw3 := hbw2.trans (hb3.mono hbw2.size)))
  all_goals (go_ret; exact ⟨rfl, hbw3⟩)

end Go.Proofs.YtlfcnekmdojabaaDoor
