/- A loop over an iterator that keeps its state in an unpacker of its own. -/
import Derived.Test.YtkmclgbiedbfpaaDoorKh
namespace Go.Proofs.YtkmclgbiedbfpaaDoor
open Go.RowKit Go.Shelf Go.Maps

theorem below_putObj {B : Nat} (W : World) (l : Nat) (o' : Obj) (h : B ≤ l) : Below B W (W.putObj l o') :=
  ⟨rfl, rfl, rfl, by simp [World.putObj], fun k hk => World.putObj_heap_other (by omega)⟩
theorem keepU_putObj {w0 W : World} {l : Nat} {o : Obj} (o' : Obj) (hl : w0.heap.size ≤ l) (ho : W.heap[l]? = some o) (hc : o.isCells = false) : KeepU w0 W (W.putObj l o') :=
  ⟨below_putObj W l o' hl, fun k cs fr hk => (World.putObj_heap_other (fun e => by
    subst e
    rw [ho] at hk
    cases hk
    cases hc)).trans hk⟩
/-- What the caller says of its own cells minds neither the loop's own blocks nor the iterator's unpacker. -/
structure Calm (B : Nat) (I : List Sm → World → Prop) : Prop where
  other : ∀ s W k o o', I s W → B ≤ k → W.heap[k]? = some o → o.isCells = false → I s (W.putObj k o')
  reader : AbidesU B I

section
variable {F : Fence} {n : Nat} {P : Program}
theorem range_calm {g : Operand} {ps : Array Tmp} {assign body : Code} {Q : Exit → Act → World → Prop} {a : Act} {w w0 : World} (hro : F.round = none) (h1 : 1 ≤ n) {gf : Nat} {lb : Array Value} (hg : a.eval g = .func (.func gf) #[] lb) (hFg : F.fn gf)
    (eg : ∀ args w, (callFunc gf args).run P w = .ok (.enter gf args) w) (hb0 : w0.heap.size ≤ w.heap.size) (XS : List Sm) (N : Nat)
    (hseq : ∀ (l : Nat) (J Jx : List Sm → World → Prop) (W : World), Below w.heap.size w W → AbidesU W.heap.size J → (∀ pre z W1, J pre W1 → pre.length < N → YieldAt F (n - 1 - 1) P l (encP z) W1 fun e W' => (e = .returned (.bool true) ∧ J (pre ++ [z]) W' ∧ KeepU w0 W1 W') ∨ (e = .returned (.bool false) ∧ Jx (pre ++ [z]) W')) → J [] W →
      CallsIn F (n - 1) P gf (#[.func (.yield l) #[] #[]] ++ lb) W fun e W' => (∃ v, e = .returned v) ∧ ((∃ ys, ys = XS ∧ J ys W') ∨ (∃ pre, pre <+: XS ∧ Jx pre W')))
    (hps : ∀ z, (encP z).size = ps.size) (I : List Sm → World → Prop) (hI : Calm w.heap.size I) (h0 : I [] w) (a₁ : Sm → Act)
    (hassign : ∀ (l : Nat) (z : Sm) (W : World) (K : Act → World → Prop), K (a₁ z) W → assign.wpIn (F.inRound l) (n - 1 - 1) P (Exit.then K (fun _ _ _ => False)) { tmps := (ps.zip (encP z)).foldl (fun t (p, v) => t.setIfInBounds p v) a.tmps, defers := [] } W)
    (hbody : ∀ (l : Nat) (pre : List Sm) (z : Sm) (W : World), I pre W → pre.length < N → body.wpIn (F.inRound l) (n - 1 - 1) P (ownPostK (KeepU w0) I (fun _ _ _ => False) (pre ++ [z]) W) (a₁ z) W)
    (hdone : ∀ (D : Nat) (W : World), w.heap.size ≤ D → I XS W → W.heap[D]? = some (.deferred (some [])) → Q .normal { a with defers := { target := .collected D, args := #[] } :: a.defers } W) :
    (Code.rangeFunc g ps assign body).wpIn F n P Q a w := by
  refine wpIn_rangeFunc (fun fn hfn => ?_)
  rw [hro]
  obtain ⟨rc, hrc⟩ : ∃ rc : Loop, rc = { state := .ready, pending := none, fn, tmps := a.tmps, params := ps, assign, body, defers := w.heap.size } := ⟨_, rfl⟩
  obtain ⟨W1, hW1⟩ : ∃ W1, W1 = (w.alloc (.deferred (some []))).alloc (.loop rc) := ⟨_, rfl⟩
  have hs1 : W1.heap.size = w.heap.size + 2 := by rw [hW1]; simp
  have hrec1 : W1.heap[w.heap.size + 1]? = some (.loop rc) := by rw [hW1]; exact heap_alloc2_new w _ _
  have hdef1 : W1.heap[w.heap.size]? = some (.deferred (some [])) := by rw [hW1]; exact heap_alloc2_old w _ _
  have hbW1 : Below w.heap.size w W1 := by rw [hW1]; exact ((Below.refl _ w).alloc (Nat.le_refl _) _).alloc (by simp) _
  have hI1 : I [] W1 := hI.reader [] w W1 none h0 ⟨hbW1.os, hbW1.tape, hbW1.output, hbW1.size, fun i hi _ => hbW1.block i hi⟩ (fun r e => by cases e)
  have hstate : rc.state = .ready := by rw [hrc]
  -- between two rounds
  obtain ⟨J, hJ⟩ : ∃ J : List Sm → World → Prop, J = fun pre W => I pre W ∧ W.heap[w.heap.size + 1]? = some (.loop rc) ∧ W.heap[w.heap.size]? = some (.deferred (some [])) := ⟨_, rfl⟩
  have hcall := hseq (w.heap.size + 1) J (fun _ _ => False) W1 hbW1
    (fun s A B row hs hgr hr => by
      rw [hJ] at hs ⊢
      obtain ⟨i1, i2, i3⟩ := hs
      have keep : ∀ (k : Nat) (o : Obj), A.heap[k]? = some o → o.isCells = false → B.heap[k]? = some o := fun k o hk ho => (hgr.block k (Array.getElem?_eq_some_iff.1 hk).1 (fun e => by
        obtain ⟨_, cs, fr, hc⟩ := hr k e.symm
        rw [hk] at hc
        cases hc
        cases ho)).trans hk
      exact ⟨hI.reader s A B row i1 hgr (fun r e => ⟨by have := (hr r e).1; omega, (hr r e).2⟩), keep _ _ i2 rfl, keep _ _ i3 rfl⟩)
    (fun pre z W hs hlen => by
      rw [hJ] at hs
      obtain ⟨i1, i2, i3⟩ := hs
      have hlt : w.heap.size + 1 < W.heap.size := (Array.getElem?_eq_some_iff.1 i2).1
      have hy := run_yield (P := P) (args := encP z) i2 (by rw [hrc]; exact hps z)
      refine ⟨rc.fn, _, rc.assign, rc.body, hy, roundIn_of_wpIn (by rw [hrc]; exact hfn) ?_⟩
      have hbusy : (W.putObj (w.heap.size + 1) (.loop { rc with state := .busy })).heap[w.heap.size + 1]? = some (.loop { rc with state := .busy }) := World.putObj_heap_same hlt
      have hdefb : (W.putObj (w.heap.size + 1) (.loop { rc with state := .busy })).heap[w.heap.size]? = some (.deferred (some [])) := (World.putObj_heap_other (by omega)).trans i3
      have e1 : rc.assign = assign := by rw [hrc]
      have e2 : rc.body = body := by rw [hrc]
      have e3 : rc.params = ps := by rw [hrc]
      have e4 : rc.tmps = a.tmps := by rw [hrc]
      rw [e1, e2, e3, e4]
      refine hassign _ z W _ ⟨_, run_beginRound i2 hstate, ?_⟩
      refine wpIn_mono (hbody _ pre z _ (hI.other _ W _ _ _ i1 (by omega) i2 rfl) hlen) ?_
      intro e a3 W3 hp
      cases e with
      | normal =>
        obtain ⟨k1, k2, k3⟩ := hp
        have hrec3 := k1.same _ _ hbusy rfl
        have hend := run_endRound (P := P) none hrec3
        have hlt3 : w.heap.size + 1 < W3.heap.size := (Array.getElem?_eq_some_iff.1 hrec3).1
        refine ⟨_, _, hend, .inl ⟨rfl, ?_, ?_⟩⟩
        · rw [hJ]
          refine ⟨hI.other _ W3 _ _ _ k3 (by omega) hrec3 rfl, ?_, (World.putObj_heap_other (by omega)).trans (k1.same _ _ hdefb rfl)⟩
          rw [World.putObj_heap_same hlt3]
          rw [hrc]
          rfl
        · exact ((keepU_putObj _ (by omega) i2 rfl).trans k2).trans (keepU_putObj _ (by omega) hrec3 rfl)
      | ret => exact hp.2.elim
      | exit id => exact hp.2.elim
      | goto t => exact hp.2.elim
      | panic ch => exact hp.elim
      | outgrown => exact hp.elim)
    (by rw [hJ]; exact ⟨hI1, hrec1, hdef1⟩)
  refine ⟨w.heap.size + 1, [{ target := .collected w.heap.size, args := #[] }], W1, { target := .fn (.func gf) lb, args := #[.func (.yield (w.heap.size + 1)) #[] #[]] }, W1, gf, #[.func (.yield (w.heap.size + 1)) #[] #[]] ++ lb, W1, ?_, ?_, ?_, ?_, fun _ => h1, ?_⟩
  · rw [hW1, hrc]
    exact run_enterLoop_outer _ _ _ _ _
  · simp only [resolve, hg]
    simp [go_sem]
  · intro f' hf'
    simp [Target.leads] at hf'
    subst hf'
    exact hFg
  · simp [invoke, go_sem, eg]
  · refine hcall.mono ?_
    rintro e W2 ⟨⟨v, rfl⟩, (⟨ys, rfl, hs⟩ | ⟨pre, _, hF⟩)⟩
    · rw [hJ] at hs
      obtain ⟨i1, i2, i3⟩ := hs
      have hend := run_endLoop (P := P) i2 (by rw [hstate]; simp)
      refine ⟨_, _, hend, ?_⟩
      have : rc.pending = none := by rw [hrc]
      rw [this]
      exact hdone _ _ (Nat.le_refl _) (hI.other _ W2 _ _ _ i1 (by omega) i2 rfl) ((World.putObj_heap_other (by omega)).trans i3)
    · exact hF.elim
end

end Go.Proofs.YtkmclgbiedbfpaaDoor
