/- Of any bytes the samples are told that they hold, as far as it is asked. -/
import Derived.Test.YtkmclgbiedbfpaaDoorVn
import Derived.Test.YtkmclgbiedbfpaaDoorVu
namespace Go.Proofs.YtkmclgbiedbfpaaDoor
open Go.RowKit Go.Shelf Go.Maps

theorem allLaw_any (v : Value) (l : List UInt8) (stop : Int) (w : World) (h : BytesAt w v l) (hs : -9223372036854775808 ≤ stop ∧ stop ≤ 9223372036854775807) (hL : Laid w w.heap.size) :
    Calls Tryd.prog 6 #[v, .int .i64 stop] w fun e w' => e = .returned (.bool true) ∧ Below w.heap.size w w' := by
  have key : ∀ bs : List UInt8, bs.length ≤ 3000 → Hid (∀ W V, BytesAt W V bs → Calls Tryd.prog 25 #[V] W fun e w' => ∃ a c, e = .returned (.slice a (decR bs).length c) ∧ SmpAt w' (.slice a (decR bs).length c) (decR bs) ∧ Below W.heap.size W w') := fun bs hb W V hV =>
    (rall_any V bs W hV (by omega)).mono (fun e w' h9 => by
      obtain ⟨v', h1, h2, h3⟩ := h9
      obtain ⟨a, c, rfl⟩ := slice_of_row h2
      exact ⟨a, c, h1, SmpAt.of_row h2, h3⟩)
  have HWK : Hid (∀ W, Below w.heap.size w W → Calls Tryd.prog 19 #[] W fun e w' => e = .returned (.bool true) ∧ Below W.heap.size W w') := fun W hb => wakes_any W ((hL.below hb).mono hb.size)
  by_cases hl : l.length ≤ 3000
  · exact allLaw_short v l stop w h hs.1 hs.2 hl hL (key l hl) HWK
  · obtain ⟨a, c, rfl, hlc, -, -⟩ := id h
    obtain ⟨b, o, rfl, -⟩ := h.one 0 (by omega)
    have hbl : (l.take 3000).length = 3000 := by simp; omega
    exact allLaw_long ⟨b, o, none⟩ l.length c (l.take 3000) stop w (h.take 3000 (by omega)) (by omega) (by omega) (by have h1 := hlc; unfold maxLen at h1; omega) hs.1 hs.2 hbl hL (key _ (by omega)) HWK

end Go.Proofs.YtkmclgbiedbfpaaDoor
