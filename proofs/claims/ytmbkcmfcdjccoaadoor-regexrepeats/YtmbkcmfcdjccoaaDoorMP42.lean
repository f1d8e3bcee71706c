/- Texts that belong together. -/
import Derived.Test.YtmbkcmfcdjccoaaDoorMP40
/- Running a program: pure. -/
namespace Go.Proofs.YtmbkcmfcdjccoaaDoor
open Go.RowKit Go.Maps

/-- A way that has come to a step, and what it noted, the last first. -/
abbrev Th := Nat × List (Nat × Nat)
/-- Where the ways of a program stand at a place. -/
structure FS where
  met : List Nat
  lat : List Th
  wait : List Th
  fnd : Option (List (Nat × Nat))
/-- How often a step has not been met at a place. -/
def unmS (a : Nat) (met : List Nat) : Nat := met.countP fun n => n != a + 1
def curN : Option Th → Nat
  | none => 0
  | some _ => 1
/-- One thread, and those into which it forks, up to the steps that take a character. -/
def folF (P : List Stp) (E a : Nat) (nt : Bool) : Nat → Option Th → FS → FS
  | 0, _, s => s
  | n + 1, none, s => match s.lat.getLast? with
    | none => s
    | some t => folF P E a nt n (some t) { s with lat := s.lat.dropLast }
  | n + 1, some t, s =>
    if s.met[t.1]? = some (a + 1) then folF P E a nt n none s
    else match P[t.1]? with
      | some (.take _ _) => folF P E a nt n none { s with met := s.met.set t.1 (a + 1), wait := s.wait ++ [t] }
      | some .start => if 0 < a then folF P E a nt n none { s with met := s.met.set t.1 (a + 1) } else folF P E a nt n (some (t.1 + 1, t.2)) { s with met := s.met.set t.1 (a + 1) }
      | some .stop => if a < E then folF P E a nt n none { s with met := s.met.set t.1 (a + 1) } else folF P E a nt n (some (t.1 + 1, t.2)) { s with met := s.met.set t.1 (a + 1) }
      | some (.note k) => folF P E a nt n (some (t.1 + 1, if nt = true then (k, a) :: t.2 else t.2)) { s with met := s.met.set t.1 (a + 1) }
      | some (.fork x y) => folF P E a nt n (some (x, t.2)) { s with met := s.met.set t.1 (a + 1), lat := s.lat ++ [(y, t.2)] }
      | some (.jump x) => folF P E a nt n (some (x, t.2)) { s with met := s.met.set t.1 (a + 1) }
      | some .yes => if a < E then folF P E a nt n none { s with met := s.met.set t.1 (a + 1) } else { s with met := s.met.set t.1 (a + 1), fnd := some t.2 }
      | none => s
theorem unm_set : ∀ {met : List Nat} {a i : Nat} (_ : i < met.length), met[i]? ≠ some (a + 1) → unmS a (met.set i (a + 1)) + 1 = unmS a met
  | b :: t, a, 0, h, hne => by
    unfold unmS
    have hb : (b != a + 1) = true := by simpa using hne
    simp [hb]
  | b :: t, a, i + 1, h, hne => by
    have ih := unm_set (met := t) (a := a) (i := i) (by simpa using h) (by simpa using hne)
    unfold unmS at ih ⊢
    rw [List.set_cons_succ, List.countP_cons, List.countP_cons]
    omega
theorem unm_le (a : Nat) (met : List Nat) : unmS a met ≤ met.length := List.countP_le_length
/-- How many rounds are left, at most. -/
def leftS (a : Nat) (c : Option Th) (s : FS) : Nat := 3 * unmS a s.met + 2 * s.lat.length + curN c
/-- A step leads to a step. -/
def tgtR (n : Nat) : Stp → Prop
  | .fork a b => a < n ∧ b < n
  | .jump a => a < n
  | _ => True
/-- A program that leads nowhere else. -/
structure ClosedS (P : List Stp) : Prop where
  next : ∀ i : Nat, i + 1 = P.length → P[i]? = some .yes
  tgt : ∀ (i : Nat) (t : Stp), P[i]? = some t → tgtR P.length t
theorem closed_prog (x : Nd) : ClosedS (progR x) := by
  have hall := emit_all x 0
  rw [Nat.zero_add] at hall
  have hl : (progR x).length = (emitN x 0).length + 1 := by simp [progR]
  refine ⟨fun i hi => ?_, fun i t ht => ?_⟩
  · have : i = (emitN x 0).length := by omega
    subst this
    simp [progR]
  · rcases List.mem_append.1 (List.mem_of_getElem? ht) with h | h
    · have h9 := hall t h
      cases t with
      | fork a b => obtain ⟨h1, h2⟩ := h9; exact ⟨by omega, by omega⟩
      | jump a => have h1 : a ≤ (emitN x 0).length := h9; show a < _; omega
      | take l neg => trivial
      | start => trivial
      | stop => trivial
      | note k => trivial
      | yes => trivial
    · rw [List.mem_singleton.1 h]
      trivial
theorem ClosedS.step {P : List Stp} (h : ClosedS P) {i : Nat} {t : Stp} (ht : P[i]? = some t) (hn : t ≠ .yes) : i + 1 < P.length := by
  have hlt : i < P.length := by
    obtain ⟨h1, -⟩ := List.getElem?_eq_some_iff.1 ht
    exact h1
  rcases Nat.lt_or_ge (i + 1) P.length with h1 | h1
  · exact h1
  · have := h.next i (by omega)
    rw [ht] at this
    injection this with this
    exact absurd this hn
end Go.Proofs.YtmbkcmfcdjccoaaDoor

/- Running a program: its ways in memory. -/
namespace Go.Proofs.YtmbkcmfcdjccoaaDoor
open Go.RowKit Go.Maps

/-- Notes, linked: each in a block of its own that is never written again. -/
def NtAt (W : World) (F : Nat → Prop) : List (Nat × Nat) → Option Addr → Prop
  | [], p => p = none
  | (k, a) :: l, p => ∃ b q, p = some ⟨b, 0, none⟩ ∧ F b ∧ W.heap[b]? = some (.cells #[.int .i64 k, .int .i64 a, .pointer q] 80) ∧ NtAt W F l q
theorem NtAt.to {W W' : World} {F G : Nat → Prop} (hFG : ∀ b, F b → G b) (hb : ∀ b, F b → W'.heap[b]? = W.heap[b]?) : ∀ {l : List (Nat × Nat)} {p : Option Addr}, NtAt W F l p → NtAt W' G l p
  | [], p, h => h
  | (k, a) :: l, p, h => by
    obtain ⟨b, q, e, h1, h2, h3⟩ := h
    exact ⟨b, q, e, hFG b h1, (hb b h1).trans h2, NtAt.to hFG hb h3⟩
/-- A thread in memory: its step, where its notes lie, what they are. -/
structure Tm where
  st : Nat
  p : Option Addr
  l : List (Nat × Nat)
def Tm.th (t : Tm) : Th := (t.st, t.l)
def tmC (t : Tm) : List Value := [.int .i64 t.st, .pointer t.p]
def thC (ts : List Tm) : List Value := ts.flatMap tmC
theorem thC_append (l m : List Tm) : thC (l ++ m) = thC l ++ thC m := by simp [thC]
theorem thC_length (l : List Tm) : (thC l).length = l.length * 2 := by
  induction l with
  | nil => rfl
  | cons a t ih => rw [show thC (a :: t) = tmC a ++ thC t from rfl, List.length_append, ih]; simp [tmC]; omega
theorem tmC_one (m : Tm) : ∀ u ∈ tmC m, u.oneCell' = true := by
  intro u hu
  simp only [tmC, List.mem_cons, List.not_mem_nil, or_false] at hu
  rcases hu with rfl | rfl <;> rfl
theorem thC_get : ∀ (l : List Tm) (k : Nat) (h : k < l.length), (thC l)[k * 2]? = some (.int .i64 l[k].st) ∧ (thC l)[k * 2 + 1]? = some (.pointer l[k].p)
  | [], k, h => absurd h (Nat.not_lt_zero _)
  | a :: t, 0, h => ⟨rfl, rfl⟩
  | a :: t, k + 1, h => by
    have ih := thC_get t k (by simpa using h)
    have e : ∀ j, (thC (a :: t))[j + 2]? = (thC t)[j]? := fun j => rfl
    rw [show (k + 1) * 2 = k * 2 + 2 by omega, show k * 2 + 2 + 1 = (k * 2 + 1) + 2 by omega, e, e]
    exact ih
theorem appTh : App Tryd.prog 86 91 2 := App.of (z := .agg #[.int .i64 0, .pointer none]) (bytes := 16) Tryd.underlying86 (by kernel_rfl) rfl (by decide) (by decide)
/-- A shorter beginning of a row. -/
theorem row_cut {w : World} {base k n m c : Nat} {e : TypeId} {a : Option Addr} {xs : List Value} (h : w.ownsRow base e k (.slice a n c) n xs) (hm : m ≤ n) : w.ownsRow base e k (.slice a m c) m (xs.take (m * k)) := by
  have hl := h.1
  have hmk : m * k ≤ n * k := Nat.mul_le_mul_right k hm
  refine ⟨by rw [List.length_take]; omega, ?_⟩
  rcases h.2 with ⟨h1, h2⟩ | ⟨g, cap, cur, e1, h2, h3, h4, h5, h6, h7⟩
  · injection h1 with h1 h8 h9
    subst h1 h8 h9
    have : m = 0 := by omega
    subst this
    exact Or.inl ⟨rfl, rfl⟩
  · injection e1 with e1 _ e3
    subst e1 e3
    refine Or.inr ⟨g, _, cur, rfl, h2, h3, by omega, h5, h6, ?_⟩
    rw [← h7, List.take_take]
    congr 1
    omega
/-- Blocks by their parts: 1 the runner, 2 what was met, 3 what forks say second, 4 who waits, 5 the thread under way; 0: what is never written. -/
def outC (C : Nat → Nat) (W : World) (b : Nat) : Prop := b < W.heap.size ∧ C b = 0
/-- What stays as it is for a run. -/
structure FoK where
  Fp : Nat → Prop
  ms : List Ms
  R : Nat
  gm : Nat
  sa : Option Addr
  sc : Nat
  mc : Nat
  E : Nat
  nt : Bool
/-- What changes. -/
structure FoD where
  met : List Nat
  la : Option Addr
  lc : Nat
  lat : List Tm
  wa : Option Addr
  wc : Nat
  wait : List Tm
  fnd : Bool
  fp : Option Addr
  fl : List (Nat × Nat)
def FoD.fs (D : FoD) : FS := ⟨D.met, D.lat.map Tm.th, D.wait.map Tm.th, if D.fnd = true then some D.fl else none⟩
def FoD.lv (D : FoD) : Value := .slice D.la D.lat.length D.lc
def FoD.wv (D : FoD) : Value := .slice D.wa D.wait.length D.wc
def meC (met : List Nat) : List Value := met.map fun n : Nat => Value.int .i64 (n : Int)
/-- The runner at a world. -/
structure FoB (C : Nat → Nat) (W : World) (K : FoK) (D : FoD) : Prop where
  run : W.heap[K.R]? = some (.cells #[.slice K.sa K.ms.length K.sc, .int .i64 K.E, .bool K.nt, .slice (some ⟨K.gm, 0, none⟩) K.ms.length K.mc, .slice D.la D.lat.length D.lc, .bool D.fnd, .pointer D.fp] 88)
  stp : RowF W K.Fp 72 5 (.slice K.sa K.ms.length K.sc) K.ms.length (msC K.ms)
  cls : ∀ m ∈ K.ms, MsOk W K.Fp m
  met : W.ownsRow 0 3 1 (.slice (some ⟨K.gm, 0, none⟩) K.ms.length K.mc) K.ms.length (meC D.met)
  lat : W.ownsRow 0 91 2 (.slice D.la D.lat.length D.lc) D.lat.length (thC D.lat)
  wai : W.ownsRow 0 91 2 (.slice D.wa D.wait.length D.wc) D.wait.length (thC D.wait)
  ltn : ∀ t ∈ D.lat, NtAt W (outC C W) t.l t.p
  wtn : ∀ t ∈ D.wait, NtAt W (outC C W) t.l t.p
  fdn : NtAt W (outC C W) D.fl D.fp
  cR : C K.R = 1
  cM : C K.gm = 2
  cL : ∀ b, D.lv.ownBlock = some b → C b = 3
  cW : ∀ b, D.wv.ownBlock = some b → C b = 4
  cF : ∀ b, K.Fp b → outC C W b
/-- The thread under way. -/
structure TbS (C : Nat → Nat) (W : World) (T : Nat) (t : Tm) : Prop where
  blk : W.heap[T]? = some (.cells #[.int .i64 t.st, .pointer t.p] 91)
  nts : NtAt W (outC C W) t.l t.p
  c5 : C T = 5
/-- A move: blocks of some parts alone are written, and new ones may come. -/
structure Mv (S : Nat → Prop) (C : Nat → Nat) (W : World) (C' : Nat → Nat) (W' : World) : Prop where
  kept : Kept (fun b => S (C b)) W W'
  ext : ∀ b, b < W.heap.size → C' b = C b
/-- The parts of a runner. -/
def S5 (c : Nat) : Prop := 1 ≤ c ∧ c ≤ 5
/-- The colours, with all blocks from a place on of one. -/
def paintC (C : Nat → Nat) (n c : Nat) (b : Nat) : Nat := if b < n then C b else c
section
variable {S S' : Nat → Prop} {C C' C'' : Nat → Nat} {W W' W'' : World} {K : FoK} {D : FoD}
theorem Mv.refl (S : Nat → Prop) (C : Nat → Nat) (W : World) : Mv S C W C W := ⟨Kept.refl _ _, fun _ _ => rfl⟩
theorem Mv.weak (m : Mv S C W C' W') (h : ∀ c, S c → S' c) : Mv S' C W C' W' := ⟨m.kept.mono (fun _b _ hb => h _ hb), m.ext⟩
theorem Mv.trans (m : Mv S C W C' W') (k : Mv S C' W' C'' W'') : Mv S C W C'' W'' := ⟨m.kept.trans k.kept (fun b hb h => by rw [m.ext b hb] at h; exact h), fun b hb => (k.ext b (Nat.lt_of_lt_of_le hb m.kept.size)).trans (m.ext b hb)⟩
theorem Mv.same (m : Mv S C W C' W') {b : Nat} (hb : b < W.heap.size) (hc : ¬ S (C b)) : W'.heap[b]? = W.heap[b]? := m.kept.block b hb hc
theorem Mv.out (m : Mv S C W C' W') {b : Nat} (h : outC C W b) : outC C' W' b := ⟨Nat.lt_of_lt_of_le h.1 m.kept.size, (m.ext b h.1).trans h.2⟩
theorem Mv.nts (m : Mv S C W C' W') (hc : ¬ S 0) {l : List (Nat × Nat)} {p : Option Addr} (h : NtAt W (outC C W) l p) : NtAt W' (outC C' W') l p := h.to (fun b hb => m.out hb) (fun b hb => m.same hb.1 (by rw [hb.2]; exact hc))
theorem Mv.drewN (m : Mv S C W C' W') (q : Nat) : Mv S C W C' (W'.drewN q) := ⟨m.kept.drewN q, m.ext⟩
theorem Mv.col (m : Mv S C W C' W') {b d : Nat} (hb : b < W.heap.size) (h : C b = d) : C' b = d := (m.ext b hb).trans h
theorem Mv.setCell (m : Mv S C W C' W') {b i : Nat} (hb : b < W.heap.size → S (C b)) (v : Value) : Mv S C W C' (W'.setCell ⟨b, i, none⟩ v) := ⟨m.kept.setCell (p := ⟨b, i, none⟩) hb v, m.ext⟩
/-- All but the written parts is as it was. -/
theorem Mv.stp (m : Mv S C W C' W') (hc : ¬ S 0) (h : FoB C W K D) : RowF W' K.Fp 72 5 (.slice K.sa K.ms.length K.sc) K.ms.length (msC K.ms) ∧ (∀ x ∈ K.ms, MsOk W' K.Fp x) ∧ (∀ b, K.Fp b → outC C' W' b) := by
  have hs : ∀ b, K.Fp b → W'.heap[b]? = W.heap[b]? := fun b hb => m.same (h.cF b hb).1 (by rw [(h.cF b hb).2]; exact hc)
  exact ⟨h.stp.to (fun _ h => h) hs, fun x hx => (h.cls x hx).to hs, fun b hb => m.out (h.cF b hb)⟩
theorem FoB.Rlt (h : FoB C W K D) : K.R < W.heap.size := (Array.getElem?_eq_some_iff.1 h.run).1
theorem FoB.Mlt (h : FoB C W K D) : K.gm < W.heap.size := (h.met.lt K.gm rfl).2
theorem Mv.run (m : Mv S C W C' W') (h : FoB C W K D) (hc : ¬ S 1) : W'.heap[K.R]? = some (.cells #[.slice K.sa K.ms.length K.sc, .int .i64 K.E, .bool K.nt, .slice (some ⟨K.gm, 0, none⟩) K.ms.length K.mc, .slice D.la D.lat.length D.lc, .bool D.fnd, .pointer D.fp] 88) := (m.same h.Rlt (by rw [h.cR]; exact hc)).trans h.run
theorem Mv.met (m : Mv S C W C' W') (h : FoB C W K D) (hc : ¬ S 2) : W'.ownsRow 0 3 1 (.slice (some ⟨K.gm, 0, none⟩) K.ms.length K.mc) K.ms.length (meC D.met) := ownsRow_heap h.met (fun b hb => by
  have e2 : some K.gm = some b := hb
  injection e2 with e2
  subst e2
  exact m.same h.Mlt (by rw [h.cM]; exact hc))
theorem Mv.lat (m : Mv S C W C' W') (h : FoB C W K D) (hc : ¬ S 3) : W'.ownsRow 0 91 2 (.slice D.la D.lat.length D.lc) D.lat.length (thC D.lat) := ownsRow_heap h.lat (fun b hb => m.same (h.lat.lt b hb).2 (by rw [h.cL b hb]; exact hc))
theorem Mv.wai (m : Mv S C W C' W') (h : FoB C W K D) (hc : ¬ S 4) : W'.ownsRow 0 91 2 (.slice D.wa D.wait.length D.wc) D.wait.length (thC D.wait) := ownsRow_heap h.wai (fun b hb => m.same (h.wai.lt b hb).2 (by rw [h.cW b hb]; exact hc))
/-- None of the runner's parts is written. -/
theorem FoB.other (h : FoB C W K D) (m : Mv S C W C' W') (h0 : ∀ c, c ≤ 4 → ¬ S c) : FoB C' W' K D := by
  obtain ⟨s1, s2, s3⟩ := m.stp (h0 0 (by decide)) h
  exact ⟨m.run h (h0 1 (by decide)), s1, s2, m.met h (h0 2 (by decide)), m.lat h (h0 3 (by decide)), m.wai h (h0 4 (by decide)), fun t ht => m.nts (h0 0 (by decide)) (h.ltn t ht), fun t ht => m.nts (h0 0 (by decide)) (h.wtn t ht), m.nts (h0 0 (by decide)) h.fdn, m.col h.Rlt h.cR, m.col h.Mlt h.cM, fun b hb => m.col (h.lat.lt b hb).2 (h.cL b hb), fun b hb => m.col (h.wai.lt b hb).2 (h.cW b hb), s3⟩
theorem TbS.lt {T : Nat} {t : Tm} (h : TbS C W T t) : T < W.heap.size := (Array.getElem?_eq_some_iff.1 h.blk).1
theorem TbS.other {T : Nat} {t : Tm} (h : TbS C W T t) (m : Mv S C W C' W') (hc : ¬ S 5) (hc0 : ¬ S 0) : TbS C' W' T t :=
  ⟨(m.same h.lt (by rw [h.c5]; exact hc)).trans h.blk, m.nts hc0 h.nts, m.col h.lt h.c5⟩
end
end Go.Proofs.YtmbkcmfcdjccoaaDoor
