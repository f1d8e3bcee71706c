/- What the document plans, pure. -/
import Derived.Test.YtfkahbgphoonaaaTp
namespace Go.Proofs.Ytfkahbgphoonaaa
open Go.RowKit Go.Shelf Go.Maps Go.Sort

/-- A span that has two blocks or more and is past. -/
def Cand (level s nw : Int) (L : List Mt) (b : Int) : Prop := 2 ≤ (L.filter (stB level b s)).length ∧ b + s ≤ nw
/-- Where the spans begin that are looked at. -/
def csF (level s : Int) (L : List Mt) : List Int := L.flatMap fun m => if m.lv = level then [cl m.lo - cl m.lo % s, cl m.lo - cl m.lo % s - s] else []
theorem csF_step (level s : Int) (L : List Mt) (k : Nat) (hk : k < L.length) : csF level s (L.take (k + 1)) = csF level s (L.take k) ++ if L[k].lv = level then [cl L[k].lo - cl L[k].lo % s, cl L[k].lo - cl L[k].lo % s - s] else [] := by
  unfold csF
  rw [List.take_succ_eq_append_getElem hk, List.flatMap_append]
  simp
/-- None, or the first of them. -/
def NoC (level s nw : Int) (L : List Mt) (cs : List Int) : Prop := ∀ c ∈ cs, ¬ Cand level s nw L c
def BestC (level s nw : Int) (L : List Mt) (cs : List Int) (b : Int) : Prop := b ∈ cs ∧ Cand level s nw L b ∧ ∀ c ∈ cs, Cand level s nw L c → b ≤ c
structure Fnd (level s nw : Int) (L : List Mt) (cs : List Int) (bb : Int) (a : Option Addr) (n c : Nat) (X : World) (out : List Mt) : Prop where
  at_ : MtAt X (.slice a n c) out
  len : out.length = n
  lot : LotOf level bb s L out
  best : BestC level s nw L cs bb
theorem Fnd.step {level s nw : Int} {L : List Mt} {cs : List Int} {bb : Int} {a : Option Addr} {n c : Nat} {X Y : World} {out : List Mt} (h : Fnd level s nw L cs bb a n c X out) (hb : Below X.heap.size X Y) : Fnd level s nw L cs bb a n c Y out := ⟨RowAt.below h.at_ hb, h.len, h.lot, h.best⟩
theorem NoC.snoc {level s nw : Int} {L : List Mt} {cs : List Int} {b : Int} (h : NoC level s nw L cs) (hb : ¬ Cand level s nw L b) : NoC level s nw L (cs ++ [b]) := fun c hc => by
  rcases List.mem_append.1 hc with hc | hc
  · exact h c hc
  · simp at hc; subst hc; exact hb
theorem BestC.first {level s nw : Int} {L : List Mt} {cs : List Int} {b : Int} (h : NoC level s nw L cs) (hb : Cand level s nw L b) : BestC level s nw L (cs ++ [b]) b := ⟨by simp, hb, fun c hc h9 => by
  rcases List.mem_append.1 hc with hc | hc
  · exact absurd h9 (h c hc)
  · simp at hc; omega⟩
theorem BestC.less {level s nw : Int} {L : List Mt} {cs : List Int} {b bb : Int} (h : BestC level s nw L cs bb) (hb : Cand level s nw L b) (hl : b < bb) : BestC level s nw L (cs ++ [b]) b := ⟨by simp, hb, fun c hc h9 => by
  rcases List.mem_append.1 hc with hc | hc
  · have := h.2.2 c hc h9; omega
  · simp at hc; omega⟩
theorem BestC.skip {level s nw : Int} {L : List Mt} {cs : List Int} {b bb : Int} (h : BestC level s nw L cs bb) (hb : Cand level s nw L b → bb ≤ b) : BestC level s nw L (cs ++ [b]) bb := ⟨List.mem_append_left _ h.1, h.2.1, fun c hc h9 => by
  rcases List.mem_append.1 hc with hc | hc
  · exact h.2.2 c hc h9
  · simp at hc; subst hc; exact hb h9⟩

/-- What the document plans. -/
def PlanRef (L : List Mt) (nw wr : Int) (ns : List ByteArray) : Prop :=
  (∃ b out, LotOf 0 b (3 * wr) L out ∧ BestC 0 (3 * wr) nw L (csF 0 (3 * wr) L) b ∧ ns = out.map (·.nm)) ∨
  (NoC 0 (3 * wr) nw L (csF 0 (3 * wr) L) ∧ ∃ b out, LotOf 1 b (9 * wr) L out ∧ BestC 1 (9 * wr) nw L (csF 1 (9 * wr) L) b ∧ ns = out.map (·.nm)) ∨
  (NoC 0 (3 * wr) nw L (csF 0 (3 * wr) L) ∧ NoC 1 (9 * wr) nw L (csF 1 (9 * wr) L) ∧ ns = [])

end Go.Proofs.Ytfkahbgphoonaaa
