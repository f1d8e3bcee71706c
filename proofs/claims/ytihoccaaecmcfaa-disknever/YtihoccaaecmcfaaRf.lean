/- A pair is made, filled and stopped. -/
import Derived.Test.YtihoccaaecmcfaaRe
namespace Go.Proofs.Ytihoccaaecmcfaa
open Go.RowKit Go.Maps Go.Sort
open Go.WideMaps Go.WideElems

def nS (B f : Nat) (pv : Value) (used ops stop : Int) : St := ⟨1000, used, ops, stop, B, B + 1, B + 2, pv, 1, mA f, .map [], .map [], [(ByteArray.empty, nmA, some ⟨f, 0, none⟩)]⟩

theorem n_create (w0 w : World) (hb : Below w0.heap.size w0 w) (B : Nat) (hB : w0.heap.size ≤ B) (hI : IsDisk w (B + 3) (newSt 1000 B)) :
    Calls Try.prog 14 #[.pointer (some ⟨B + 3, 0, none⟩), .string nmA] w fun e w' => e = .returned (.int .i64 0) ∧ ∃ f pv, Wk w0 w' (B + 3) f (nS B f pv 0 1 (-1)) ⟨.slice none 0 0, [], 0⟩ := by
  refine (create_new hI (by show (0 : Int) < 1000000000; omega) nmA rfl (by show 0 < 1000000000; omega) (by show 0 < 1000000000; omega) rnA (by decide) rfl).mono fun e w' ⟨he, f, pv, hf, hI', hfa, hpv, hk⟩ => ⟨he, f, pv, ?_⟩
  have lo0 : ∀ k, (newSt 1000 B).own (B + 3) k → w0.heap.size ≤ k := fun k hk' => by
    rcases hk' with h | h | h | h | h
    · omega
    · exact h ▸ hB
    · exact h ▸ (show w0.heap.size ≤ B + 1 by omega)
    · exact h ▸ (show w0.heap.size ≤ B + 2 by omega)
    · cases h
  have hbs := hb.size
  refine ⟨hI', ⟨hfa, World.ownsRow_nil _ _ _ _⟩, fun k h => (by cases h), fun k hk' => ?_, by omega, fun k h => (by cases h), hb.trans (hk.toBelow hbs lo0)⟩
  rcases hk' with h | h | h | h | h
  · omega
  · exact h ▸ hB
  · exact h ▸ (show w0.heap.size ≤ B + 1 by omega)
  · exact h ▸ (show w0.heap.size ≤ B + 2 by omega)
  · have h' : pv.ownBlock = some k := h
    rcases hpv with e | ⟨g, e, hg⟩
    · rw [h'] at e
      cases e
    · rw [h'] at e
      cases e
      omega

theorem n_append (w0 w : World) (fr : Nat × Nat) (B f : Nat) (pv : Value) (h : Wk w0 w (B + 3) f (nS B f pv 0 1 (-1)) ⟨.slice none 0 0, [], 0⟩) :
    Calls Try.prog 15 #[.pointer (some ⟨B + 3, 0, none⟩), .string nmA, .slice (some ⟨w.heap.size, 0, none⟩) 2 2] (w.alloc (.cells #[.int .u8 120, .int .u8 121] 5 fr)) fun e w' => e = .returned (.int .i64 0) ∧ ∃ v, Wk w0 w' (B + 3) f (nS B f pv 2 2 (-1)) ⟨v, xy, 0⟩ := by
  have h1 := wk_alloc h (.cells #[.int .u8 120, .int .u8 121] 5 fr)
  refine (append_ok h1.disk (by show (1 : Int) < 1000000000; omega) rfl nmA rnA (by decide) f (atA f) (.slice none 0 0) [] 0 h1.file h1.row ⟨w.heap.size, 0, none⟩ 2 2 xy rfl (World.news_of_block (cs := #[.int .u8 120, .int .u8 121]) (t := 5) (fr := fr) (heap_alloc_new w _))
    (fun _ ho => ?_) (by simp) (by show (0 : Int) ≤ 1000; omega) (by show (1000 : Int) ≤ 1000000000000; omega) (by show (0 : Int) ≤ 0; omega) (by show (0 : Int) ≤ 1000000000000; omega) (Or.inl (by show (2 : Int) ≤ 1000 - 0; omega))).mono fun e w' ⟨he, v, hf, hI, hv, hk⟩ => ⟨he, v, ?_⟩
  · have := h.disk.lt _ ho
    simp at this
  · have hsz := h1.bel.size
    refine ⟨hI, hf, fun k hk' ho => ?_, h.lo, h.lof, fun k hk' => ?_, h1.bel.trans (hk.toBelow hsz (fun i e => ?_))⟩
    · rcases hv with e | ⟨g, e, hg⟩
      · have hk2 : v.ownBlock = some k := hk'
        rw [e] at hk2
        cases hk2
      · have hk2 : v.ownBlock = some k := hk'
        rw [e] at hk2
        cases hk2
        have := h1.disk.lt _ ho
        omega
    · have hk2 : v.ownBlock = some k := hk'
      rcases hv with e | ⟨g, e, hg⟩
      · rw [e] at hk2
        cases hk2
      · rw [e] at hk2
        cases hk2
        omega
    · rcases e with e | e | e
      · exact h.lo i e
      · exact e ▸ h.lof
      · cases e

theorem n_stop (w0 w : World) (d f B : Nat) (pv v : Value) (h : Wk w0 w d f (nS B f pv 2 2 (-1)) ⟨v, xy, 0⟩) :
    Calls Try.prog 21 #[.pointer (some ⟨d, 0, none⟩), .int .i64 0] w fun e w' => e = .returned (.tuple #[]) ∧ Wk w0 w' d f (nS B f pv 2 2 0) ⟨v, xy, 0⟩ :=
  (stop_zero h.disk).mono fun _ _ ⟨he, hI, hk⟩ => ⟨he, hI, h.file.kept hk (h.file.ne_disk h.disk.at_) (fun i hi e => h.disk.at_.ne_row h.file.row (by decide) (e ▸ hi)), h.row, h.lo, h.lof, h.lor, h.bel.trans (hk.toBelow h.bel.size (fun i e => h.lo i (Or.inl e)))⟩

/-- What only the document's disk writes leaves the program's. -/
theorem Wk.kt {w0 w w' : World} {d f : Nat} {s : St} {x : FileV} (h : Wk w0 w d f s x) {base : Nat} (k : KT (refS base) w w') (hb : w0.heap.size ≤ base) : Wk w0 w' d f s x :=
  ⟨⟨k.heap h.disk.at_ (noR rfl), k.ownsMap h.disk.mN, k.ownsMap h.disk.mD, k.ownsMap h.disk.mF, k.ownsRow h.disk.row (noR rfl), h.disk.nd, h.disk.nf, h.disk.df, h.disk.o0, h.disk.s0, h.disk.s1⟩, ⟨k.heap h.file.at_ (noR rfl), k.ownsRow h.file.row (noR rfl)⟩, h.row, h.lo, h.lof, h.lor, h.bel.trans (k.toBelow h.bel.size hb)⟩
theorem Wk.below {w0 w w' : World} {d f : Nat} {s : St} {x : FileV} (h : Wk w0 w d f s x) (hb : Below w.heap.size w w') : Wk w0 w' d f s x :=
  ⟨h.disk.kept ((Kept.refl (fun _ => False) w).below hb) (fun _ _ e => e), h.file.kept ((Kept.refl (fun _ => False) w).below hb) (fun e => e) (fun _ _ e => e), h.row, h.lo, h.lof, h.lor, h.bel.trans (hb.mono h.bel.size)⟩

def rS0 (base : Nat) : RSt := ⟨base, 1000, -1, 0, .slice none 0 0, .slice none 0 0, .slice none 0 0, .slice none 0 0, .slice none 0 0, [], [], [], [], []⟩

theorem ref_new {w : World} {r : Nat} (h : RefAt w r 1000 (.slice none 0 0) (.slice none 0 0) (.slice none 0 0) (.slice none 0 0) (.slice none 0 0) (-1) 0) : IsRef w r (rS0 r) :=
  ⟨Nat.le_refl _, h, World.ownsRow_nil _ _ _ _, World.ownsRow_nil _ _ _ _, World.ownsRow_nil _ _ _ _, World.ownsRow_nil _ _ _ _, World.ownsRow_nil _ _ _ _, fun x hx => by cases hx⟩

theorem IsRef.only {w w' : World} {r : Nat} {s s' : RSt} (h : IsRef w r s) (k : Kept (fun k => k = r) w w') (ha : RefAt w' r s'.cap s.fv s.dv s.kv s.pv s.qv s'.stop s'.cnt) (e : s' = { s with cap := s'.cap, stop := s'.stop, cnt := s'.cnt }) : IsRef w' r s' ∧ KT (refS s.base) w w' := by
  have nor : ∀ {base n size : Nat} {e : TypeId} {v : Value} {xs : List Value}, w.ownsRow base e size v n xs → e ≠ 41 → ∀ b, v.ownBlock = some b → ¬ (b = r) := fun ho he b hb e => h.at_.ne_row ho he (e ▸ hb)
  rw [e]
  refine ⟨⟨h.lo, ha, k.ownsRow h.rF (nor h.rF (by decide)), k.ownsRow h.rD (nor h.rD (by decide)), k.ownsRow h.rK (nor h.rK (by decide)), k.ownsRow h.rP (nor h.rP (by decide)), k.ownsRow h.rQ (nor h.rQ (by decide)), fun x hx => (h.bytes x hx).kept k (fun b ⟨cs, fr, e1⟩ e2 => ?_)⟩, h.at_.kt h.lo k⟩
  subst e2
  have := h.at_
  unfold RefAt at this
  rw [this] at e1
  simp at e1

theorem refBegin_calm {w : World} {r : Nat} {s : RSt} (h : IsRef w r s) (hs : s.stop = -1) (hq : s.qv = .slice none 0 0) (h0 : 0 ≤ s.cnt) (h1 : s.cnt < 1000000000) :
    Calls Try.prog 54 #[.pointer (some ⟨r, 0, none⟩)] w fun e w' => e = .returned (.tuple #[.int .i64 0, .int .i64 0]) ∧ IsRef w' r { s with cnt := s.cnt + 1 } ∧ KT (refS s.base) w w' := by
  have ha := h.at_
  rw [hs, hq] at ha
  refine (refBegin_on ha h0 h1).mono fun e w' ⟨he, hR, hk⟩ => ⟨he, h.only hk (s' := { s with cnt := s.cnt + 1 }) ?_ rfl⟩
  show RefAt w' r s.cap s.fv s.dv s.kv s.pv s.qv s.stop (s.cnt + 1)
  rw [hs, hq]
  exact hR

end Go.Proofs.Ytihoccaaecmcfaa
