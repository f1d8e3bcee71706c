/- The document's Decode; any bytes are a chunk, or they are refused. -/
import Derived.Test.YtkmclgbiedbfpaaDoorVn
import Derived.Test.YtkmclgbiedbfpaaDoorVh
import Derived.Test.YtkmclgbiedbfpaaDoorKu
namespace Go.Proofs.YtkmclgbiedbfpaaDoor
open Go.RowKit Go.Maps Go.Shelf

/-- is it a chunk? -/
def isCh (bs : List UInt8) : Prop := (decR bs).length ≤ 120 ∧ encR (decR bs) = bs

/-- samples that no change below B touches -/
def SmpK (B : Nat) (w : World) (v : Value) (l : List Sm) : Prop := ∀ W, Kept (fun k => k < B) w W → SmpAt W v l
theorem SmpK.of_row {w : World} {base : Nat} {v : Value} {l : List Sm} (h : w.ownsRow base 35 2 v l.length (smCells l)) : SmpK base w v l := fun _ hk =>
  SmpAt.of_row (base := base) (hk.ownsRow h (fun k hk' hlt => by have := (h.lt k hk').1; omega))
theorem SmpK.nil {w : World} {B : Nat} : SmpK B w (.slice none 0 0) [] := fun _ _ => SmpAt.nil
theorem SmpK.now {w : World} {B : Nat} {v : Value} {l : List Sm} (h : SmpK B w v l) : SmpAt w v l := h w (Kept.refl _ _)
theorem SmpK.below {w w' : World} {B : Nat} {v : Value} {l : List Sm} (h : SmpK B w v l) (hb : Below w.heap.size w w') : SmpK B w' v l := fun W hk => by
  have h1 : Kept (fun k => k < B) w W := (Kept.refl (fun k => k < B) w).below hb |>.trans hk (fun _ _ h => h)
  exact h W h1

set_option maxRecDepth 100000 in
set_option maxHeartbeats 4000000 in
theorem rdecode_any (V : Value) (bs : List UInt8) (w : World) (h : BytesAt w V bs) (hl : bs.length ≤ 100000) :
    (isCh bs → Calls Tryd.prog 23 #[V] w fun e w' => ∃ v', e = .returned (.tuple #[v', .int .i64 0]) ∧ SmpK w.heap.size w' v' (decR bs) ∧ Below w.heap.size w w') ∧
    (¬ isCh bs → Calls Tryd.prog 23 #[V] w fun e w' => ∃ v', e = .returned (.tuple #[v', .int .i64 8]) ∧ SmpK w.heap.size w' v' [] ∧ Below w.heap.size w w') := by
  have hall := rall_any V bs w h hl
  obtain ⟨a, c, rfl, -, -, -⟩ := id h
  have HS : Hid (∀ W, Below w.heap.size w W → (convert 24 9 (.slice a bs.length c)).run Tryd.prog W = .ok (.string ⟨bs.toArray⟩) W) := fun W hb => (h.below hb).str
  have HT : Hid (∀ W V, BytesAt W V (encR (decR bs)) → (convert 24 9 V).run Tryd.prog W = .ok (.string ⟨(encR (decR bs)).toArray⟩) W) := fun W V hV => hV.str
  have htx := text_eq (encR (decR bs)) bs
  have HSM : Hid (∀ W V, W.ownsRow w.heap.size 35 2 V (decR bs).length (smCells (decR bs)) → SmpAt W V (decR bs)) := fun W V hV => SmpAt.of_row hV
  clear h
  constructor
  · intro hc
    have KE : Hid (∀ W V, SmpAt W V (decR bs) → Calls Tryd.prog 10 #[V] W fun e w' => ∃ v', e = .returned (.tuple #[v', .int .i64 0]) ∧ w'.ownsRow W.heap.size 5 1 v' (encR (decR bs)).length (byteVals (encR (decR bs))) ∧ Below W.heap.size W w') := fun W V hV => rencode_any V _ W hV hc.1
    rw [decide_eq_true hc.2] at htx
    generalize (⟨bs.toArray⟩ : ByteArray) = ty at *
    generalize (⟨(encR (decR bs)).toArray⟩ : ByteArray) = tx at *
    clear hc
    generalize encR (decR bs) = ex at *
    generalize decR bs = dl at *
    go_enter Tryd.func23, Tryd.ntmps23
    go_wp2_with (first
      | (go_at_call 25; refine hall.mono ?_; clear hall; rintro e w1 ⟨v1, rfl, hr1, hb1⟩; have hs1 := HSM.out w1 v1 hr1; obtain ⟨a1, c1, rfl⟩ := slice_of_row hr1; have ke := KE.out w1 _ hs1; have HR1 : Hid (SmpK w.heap.size w1 (.slice a1 dl.length c1) dl) := SmpK.of_row hr1; have HB1 : Hid (Below w.heap.size w w1) := hb1; clear KE HSM hr1 hs1 hb1)
      | (go_at_call 10; refine ke.mono ?_; clear ke; rintro e w2 ⟨v2, rfl, hr2, hb2⟩; obtain ⟨a2, c2, rfl⟩ := slice_of_row hr2; have t2 := HT.out w2 _ (BytesAt.of_row hr2); have hbw2 : Below w.heap.size w w2 := HB1.out.trans (hb2.mono HB1.out.size); have t1 := HS.out w2 hbw2; have HR2 : Hid (SmpK w.heap.size w2 (.slice a1 dl.length c1) dl) := HR1.out.below hb2; have HB2 : Hid (Below w.heap.size w w2) := hbw2; clear hr2 hb2 hbw2))
    go_ret2
    exact ⟨_, rfl, HR2.out, HB2.out⟩
  · intro hc
    by_cases hd : (decR bs).length ≤ 120
    · have hne : ¬ encR (decR bs) = bs := fun e => hc ⟨hd, e⟩
      have KE : Hid (∀ W V, SmpAt W V (decR bs) → Calls Tryd.prog 10 #[V] W fun e w' => ∃ v', e = .returned (.tuple #[v', .int .i64 0]) ∧ w'.ownsRow W.heap.size 5 1 v' (encR (decR bs)).length (byteVals (encR (decR bs))) ∧ Below W.heap.size W w') := fun W V hV => rencode_any V _ W hV hd
      rw [decide_eq_false hne] at htx
      generalize (⟨bs.toArray⟩ : ByteArray) = ty at *
      generalize (⟨(encR (decR bs)).toArray⟩ : ByteArray) = tx at *
      clear hc hne
      generalize encR (decR bs) = ex at *
      generalize decR bs = dl at *
      go_enter Tryd.func23, Tryd.ntmps23
      go_wp2_with (first
        | (go_at_call 25; refine hall.mono ?_; clear hall; rintro e w1 ⟨v1, rfl, hr1, hb1⟩; have hs1 := HSM.out w1 v1 hr1; obtain ⟨a1, c1, rfl⟩ := slice_of_row hr1; have ke := KE.out w1 _ hs1; have HB1 : Hid (Below w.heap.size w w1) := hb1; clear KE HSM hr1 hs1 hb1)
        | (go_at_call 10; refine ke.mono ?_; clear ke; rintro e w2 ⟨v2, rfl, hr2, hb2⟩; obtain ⟨a2, c2, rfl⟩ := slice_of_row hr2; have t2 := HT.out w2 _ (BytesAt.of_row hr2); have hbw2 : Below w.heap.size w w2 := HB1.out.trans (hb2.mono HB1.out.size); have t1 := HS.out w2 hbw2; have HB2 : Hid (Below w.heap.size w w2) := hbw2; clear hr2 hb2 hbw2))
      go_ret2
      exact ⟨_, rfl, SmpK.nil, HB2.out⟩
    · have KE : Hid (∀ W V, SmpAt W V (decR bs) → Calls Tryd.prog 10 #[V] W fun e w' => e = .returned (.tuple #[.slice none 0 0, .int .i64 15]) ∧ w' = W) := fun W V hV => rencode_many V _ W hV (by omega)
      clear hc htx HT HS hd
      generalize decR bs = dl at *
      go_enter Tryd.func23, Tryd.ntmps23
      go_wp2_with (first
        | (go_at_call 25; refine hall.mono ?_; clear hall; rintro e w1 ⟨v1, rfl, hr1, hb1⟩; have hs1 := HSM.out w1 v1 hr1; obtain ⟨a1, c1, rfl⟩ := slice_of_row hr1; have ke := KE.out w1 _ hs1; have HB1 : Hid (Below w.heap.size w w1) := hb1; clear KE HSM hr1 hs1 hb1)
        | (go_at_call 10; refine ke.mono ?_; clear ke; rintro e w2 ⟨rfl, hw2⟩; have hw2 := hw2.symm; subst hw2))
      go_ret2
      exact ⟨_, rfl, SmpK.nil, HB1.out⟩

end Go.Proofs.YtkmclgbiedbfpaaDoor
