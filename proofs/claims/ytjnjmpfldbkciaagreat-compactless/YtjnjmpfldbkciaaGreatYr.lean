/- An iterator that tells one series; a loop over such a one. -/
import Derived.Test.YtjnjmpfldbkciaaGreatYd
namespace Go.Proofs.YtjnjmpfldbkciaaGreat
open Go.RowKit Go.Shelf Go.Maps

theorem room_of_none {F : Fence} (hd : F.depth = none) (k : Nat) : F.room k := fun d h => by rw [hd] at h; cases h
theorem roundIn_anyDepth {F : Fence} (hd : F.depth = none) {m m' : Nat} {P : Program} {l : Nat} {f : FuncId} {tmps : Array Value} {assign body : Code} {w : World} {R : Ending → World → Prop}
    (h : RoundIn F m P l f tmps assign body w R) : RoundIn F m' P l f tmps assign body w R := ⟨h.1, fun c cs _ => h.2 c cs (room_of_none hd _)⟩
theorem yieldAt_anyDepth {F : Fence} (hd : F.depth = none) {m : Nat} (m' : Nat) {P : Program} {l : Nat} {args : Array Value} {W : World} {R : Ending → World → Prop} (h : YieldAt F m P l args W R) : YieldAt F m' P l args W R := by
  obtain ⟨fn, tmps, assign, body, hy, hR⟩ := h
  exact ⟨fn, tmps, assign, body, hy, roundIn_anyDepth hd hR⟩

theorem RowAt.keptN {O : Nat → Prop} {w w' : World} {v : Value} {k n : Nat} {cs : List Value} (h : RowAt w v k n cs) (hk : Kept O w w') (ho : ∀ b o, O b → w.cell? ⟨b, o, none⟩ = none) : RowAt w' v k n cs := by
  obtain ⟨a, c, rfl, h1, h2, h3⟩ := h
  refine ⟨a, c, rfl, h1, h2, fun j u hu => ?_⟩
  obtain ⟨b, o, rfl, hb, hc⟩ := h3 j u hu
  exact ⟨b, o, rfl, Nat.lt_of_lt_of_le hb hk.size, (World.cell?_of_block (w := w) (hk.block b hb (fun e => by rw [ho b _ e] at hc; cases hc))).trans hc⟩
theorem Kept.of_below {B : Nat} {a b : World} (h : Below B a b) (O : Nat → Prop) (hO : ∀ i, B ≤ i → i < a.heap.size → O i) : Kept O a b :=
  ⟨h.os, h.tape, h.output, h.size, fun i hi hn => h.block i (by
    rcases Nat.lt_or_ge i B with h1 | h1
    · exact h1
    · exact absurd (hO i h1 hi) hn)⟩

/-- What is told: it lies behind n, or may lie anywhere. -/
def Told (q : Prop) (n : Nat) (W : World) (vl vs : Value) (z : Ser) : Prop := LbAt W vl z.1 ∧ SmAt W vs z.2 ∧ (q ∨ (∀ b, blkOf vl = some b → b < n) ∧ ∀ b, blkOf vs = some b → b < n)
/-- Called with yield, this function tells z, once, and does nothing else to what is not its own; behind that it turns none of its own (q false) or perhaps some. -/
def Tells1 (P : Program) (gf : Nat) (lb : Array Value) (z : Ser) (W0 : World) (q : Prop) : Prop :=
  ∀ (l : Nat) (W : World) (R : World → World → Prop), Below W0.heap.size W0 W →
    (∀ W1 A A', R W1 A → W.heap.size ≤ W1.heap.size → Kept (fun i => q ∧ W.heap.size ≤ i ∧ i < W1.heap.size) A A' → R W1 A') →
    (∀ W1 vl vs, Below W.heap.size W W1 → Told q W0.heap.size W1 vl vs z → YieldAt Fence.wide 0 P l #[.agg #[vl, vs]] W1 fun e W2 => e = .returned (.bool true) ∧ Kept (fun i => W0.heap.size ≤ i ∧ i < W.heap.size) W1 W2 ∧ R W1 W2) →
    Calls P gf (#[.func (.yield l) #[] #[]] ++ lb) W fun e W' => (∃ u, e = .returned u) ∧ ∃ W1, Below W.heap.size W W1 ∧ R W1 W'

section
variable {P : Program}
theorem range_one {T : TypeId} {g : Operand} {ps : Array Tmp} {assign body : Code} {Q : Exit → Act → World → Prop} {a : Act} {w w0 : World} {n : Nat} (h1 : 1 ≤ n) {gf : Nat} {lb : Array Value} (hg : a.eval g = .func (.func gf) #[] lb)
    (eg : ∀ args w, (callFunc gf args).run P w = .ok (.enter gf args) w) (z : Ser) {q : Prop} (hseq : Tells1 P gf lb z w0 q) (hb0 : Below w0.heap.size w0 w) (hps : ps.size = 1) (R : World → World → Prop)
    (hRa : ∀ W1 A A', R W1 A → w.heap.size + 2 ≤ W1.heap.size → Kept (fun i => (w.heap.size ≤ i ∧ i < w.heap.size + 2) ∨ (q ∧ w.heap.size + 2 ≤ i ∧ i < W1.heap.size)) A A' → R W1 A')
    (a₁ : Value → Value → World → Act)
    (hassign : ∀ (l : Nat) (vl vs : Value) (W : World) (K : Act → World → Prop), (∃ a n c, vl = .slice a n c) → (∃ a n c, vs = .slice a n c) → K (a₁ vl vs W) (W.alloc (.cells #[vl, vs] T)) → assign.wpIn (Fence.wide.inRound l) n P (Exit.then K (fun _ _ _ => False)) { tmps := (ps.zip #[.agg #[vl, vs]]).foldl (fun t (p, v) => t.setIfInBounds p v) a.tmps, defers := [] } W)
    (hbody : ∀ (l : Nat) (vl vs : Value) (W1 Wb : World), l = w.heap.size + 1 → Below w.heap.size w W1 → w.heap.size + 2 ≤ W1.heap.size → Kept (fun i => i = l) (W1.alloc (.cells #[vl, vs] T)) Wb → Told q w0.heap.size Wb vl vs z → body.wpIn (Fence.wide.inRound l) n P (fun e _ W3 => e = .normal ∧ Kept (fun i => (w0.heap.size ≤ i ∧ i < w.heap.size) ∨ i = W1.heap.size) Wb W3 ∧ R W1 W3) (a₁ vl vs W1) Wb)
    (hdone : ∀ (W1 A : World), Below w.heap.size w W1 → w.heap.size + 2 ≤ W1.heap.size → R W1 A → A.heap[w.heap.size]? = some (.deferred (some [])) → Q .normal { a with defers := { target := .collected w.heap.size, args := #[] } :: a.defers } A) :
    (Code.rangeFunc g ps assign body).wpIn Fence.wide n P Q a w := by
  refine wpIn_rangeFunc (fun fn hfn => ?_)
  rw [show (Fence.wide).round = none from rfl]
  obtain ⟨rc, hrc⟩ : ∃ rc : Loop, rc = { state := .ready, pending := none, fn, tmps := a.tmps, params := ps, assign, body, defers := w.heap.size } := ⟨_, rfl⟩
  obtain ⟨Ws, hWs⟩ : ∃ Ws, Ws = (w.alloc (.deferred (some []))).alloc (.loop rc) := ⟨_, rfl⟩
  have hs1 : Ws.heap.size = w.heap.size + 2 := by rw [hWs]; simp
  have hrec1 : Ws.heap[w.heap.size + 1]? = some (.loop rc) := by rw [hWs]; exact heap_alloc2_new w _ _
  have hdef1 : Ws.heap[w.heap.size]? = some (.deferred (some [])) := by rw [hWs]; exact heap_alloc2_old w _ _
  have hbW1 : Below w.heap.size w Ws := by rw [hWs]; exact ((Below.refl _ w).alloc (Nat.le_refl _) _).alloc (by simp) _
  have hstate : rc.state = .ready := by rw [hrc]
  have hw0 := hb0.size
  have hcall := hseq (w.heap.size + 1) Ws (fun W1 A => R W1 A ∧ A.heap[w.heap.size + 1]? = some (.loop rc) ∧ A.heap[w.heap.size]? = some (.deferred (some []))) (hb0.trans (hbW1.mono hw0))
    (fun W1 A A' hs hsz hk => ⟨hRa W1 A A' hs.1 (by omega) (hk.mono (fun i _ hi => Or.inr ⟨hi.1, by omega, hi.2.2⟩)), hk.heap hs.2.1 (by omega), hk.heap hs.2.2 (by omega)⟩)
    (fun W1 vl vs hb1 ⟨hl, hs, htd⟩ => by
      have i2 : W1.heap[w.heap.size + 1]? = some (.loop rc) := (hb1.block _ (by omega)).trans hrec1
      have i3 : W1.heap[w.heap.size]? = some (.deferred (some [])) := (hb1.block _ (by omega)).trans hdef1
      have hsz1 := hb1.size
      have hy := run_yield (P := P) (args := #[.agg #[vl, vs]]) i2 (by rw [hrc]; simpa using hps.symm)
      refine ⟨rc.fn, _, rc.assign, rc.body, hy, roundIn_anyDepth (m := n) rfl (roundIn_of_wpIn (by rw [hrc]; exact hfn) ?_)⟩
      have e1 : rc.assign = assign := by rw [hrc]
      have e2 : rc.body = body := by rw [hrc]
      have e3 : rc.params = ps := by rw [hrc]
      have e4 : rc.tmps = a.tmps := by rw [hrc]
      rw [e1, e2, e3, e4]
      have i2' : (W1.alloc (.cells #[vl, vs] T)).heap[w.heap.size + 1]? = some (.loop rc) := (Below.heap_alloc W1 _ _ (by omega)).trans i2
      have hlt : w.heap.size + 1 < (W1.alloc (.cells #[vl, vs] T)).heap.size := by simp; omega
      refine hassign _ vl vs W1 _ (by obtain ⟨x, y, e, -⟩ := hl; exact ⟨x, _, y, e⟩) (by obtain ⟨x, y, e, -⟩ := hs; exact ⟨x, _, y, e⟩) ⟨_, run_beginRound i2' hstate, ?_⟩
      have hbusy : ((W1.alloc (.cells #[vl, vs] T)).putObj (w.heap.size + 1) (.loop { rc with state := .busy })).heap[w.heap.size + 1]? = some (.loop { rc with state := .busy }) := World.putObj_heap_same hlt
      have hkb : Kept (fun i => i = w.heap.size + 1) (W1.alloc (.cells #[vl, vs] T)) ((W1.alloc (.cells #[vl, vs] T)).putObj (w.heap.size + 1) (.loop { rc with state := .busy })) := (Kept.refl (fun i => i = w.heap.size + 1) _).putObj (fun _ => rfl) _
      have hnc : ∀ b o, b = w.heap.size + 1 → (W1.alloc (.cells #[vl, vs] T)).cell? ⟨b, o, none⟩ = none := fun b o e => by subst e; simp [World.cell?, i2']
      have hal : Below W1.heap.size W1 (W1.alloc (.cells #[vl, vs] T)) := (Below.refl _ _).alloc (Nat.le_refl _) _
      refine wpIn_mono (hbody (w.heap.size + 1) vl vs W1 _ rfl (hbW1.trans (hb1.mono (by omega))) (by omega) hkb ⟨(RowAt.below hl hal).keptN hkb hnc, (RowAt.below hs hal).keptN hkb hnc, htd⟩) ?_
      rintro e a3 W3 ⟨rfl, k1, k2⟩
      have hrec3 := k1.heap hbusy (by omega)
      have hdef3 := k1.heap (hkb.heap ((Below.heap_alloc W1 _ _ (by omega)).trans i3) (by omega)) (by omega)
      have hend := run_endRound (P := P) none hrec3
      have hlt3 : w.heap.size + 1 < W3.heap.size := (Array.getElem?_eq_some_iff.1 hrec3).1
      have hk3 : ∀ (O : Nat → Prop) (o : Obj), O (w.heap.size + 1) → Kept O W3 (W3.putObj (w.heap.size + 1) o) := fun O o hO => (Kept.refl _ _).putObj (fun _ => hO) _
      refine ⟨_, _, hend, rfl, ?_, hRa _ _ _ k2 (by omega) (hk3 _ _ (Or.inl ⟨by omega, by omega⟩)), ?_, (World.putObj_heap_other (by omega)).trans hdef3⟩
      · have hk0 : Kept (fun i => w0.heap.size ≤ i ∧ i < Ws.heap.size) W1 (W1.alloc (.cells #[vl, vs] T)) := (Kept.refl _ _).alloc _
        have hk1 := hk0.trans hkb (fun i _ hi => ⟨by omega, by omega⟩)
        have hk2 := hk1.trans k1 (fun i hlt9 hi => by rcases hi with hi | hi <;> omega)
        exact hk2.putObj (fun _ => ⟨by omega, by omega⟩) _
      · rw [World.putObj_heap_same hlt3]
        rw [hrc]
        rfl)
  refine ⟨w.heap.size + 1, [{ target := .collected w.heap.size, args := #[] }], Ws, { target := .fn (.func gf) lb, args := #[.func (.yield (w.heap.size + 1)) #[] #[]] }, Ws, gf, #[.func (.yield (w.heap.size + 1)) #[] #[]] ++ lb, Ws, ?_, ?_, ?_, ?_, fun _ => h1, ?_⟩
  · rw [hWs, hrc]
    exact run_enterLoop_outer _ _ _ _ _
  · simp only [resolve, hg]
    simp [go_sem]
  · intro f' hf'
    trivial
  · simp [invoke, go_sem, eg]
  · refine (callsIn_wide.2 hcall).mono ?_
    rintro e W2 ⟨⟨v, rfl⟩, W1, hb1, hs, i2, i3⟩
    have hend := run_endLoop (P := P) i2 (by rw [hstate]; simp)
    refine ⟨_, _, hend, ?_⟩
    have : rc.pending = none := by rw [hrc]
    rw [this]
    have hsz1 := hb1.size
    exact hdone W1 _ (hbW1.trans (hb1.mono (by omega))) (by omega) (hRa _ _ _ hs (by omega) ((Kept.refl _ _).putObj (fun _ => Or.inl ⟨by omega, by omega⟩) _)) ((World.putObj_heap_other (by omega)).trans i3)
end

end Go.Proofs.YtjnjmpfldbkciaaGreat
