/- Texts that belong together. -/
import Derived.Test.YtmbkcmfcdjccoaaDoorMP27
/- The steps of an expression, in memory. -/
namespace Go.Proofs.YtmbkcmfcdjccoaaDoor
open Go.RowKit Go.Maps

/-- A step in memory: what it is, and the slice of its class. -/
structure Ms where
  st : Stp
  a : Option Addr
  n : Nat
  c : Nat
def Ms.cv (m : Ms) : Value := .slice m.a m.n m.c
def bare (t : Stp) : Ms := ⟨t, none, 0, 0⟩
/-- The cells of a step, besides its class. -/
def stK : Stp → Int × Int × Int × Int
  | .take _ _ => (0, 0, 0, 0)
  | .start => (1, 0, 0, 0)
  | .stop => (2, 0, 0, 0)
  | .note k => (3, k, 0, 0)
  | .fork a b => (4, 0, a, b)
  | .jump a => (5, 0, a, 0)
  | .yes => (6, 0, 0, 0)
def stC (m : Ms) : List Value := [.int .i64 (stK m.st).1, m.cv, .int .i64 (stK m.st).2.1, .int .i64 (stK m.st).2.2.1, .int .i64 (stK m.st).2.2.2]
def msC (l : List Ms) : List Value := l.flatMap stC
theorem msC_append (l m : List Ms) : msC (l ++ m) = msC l ++ msC m := by simp [msC]
theorem msC_length (l : List Ms) : (msC l).length = l.length * 5 := by
  induction l with
  | nil => rfl
  | cons a t ih => rw [show msC (a :: t) = stC a ++ msC t from rfl, List.length_append, ih]; simp [stC]; omega
theorem stC_one (m : Ms) : ∀ u ∈ stC m, u.oneCell' = true := by
  intro u hu
  simp only [stC, List.mem_cons, List.not_mem_nil, or_false] at hu
  rcases hu with rfl | rfl | rfl | rfl | rfl <;> rfl
theorem msC_get (l : List Ms) (k : Nat) (h : k < l.length) (j : Nat) (hj : j < 5) : (msC l)[k * 5 + j]? = (stC l[k])[j]? := by
  induction l generalizing k with
  | nil => exact absurd h (Nat.not_lt_zero _)
  | cons a t ih =>
    rw [show msC (a :: t) = stC a ++ msC t from rfl]
    cases k with
    | zero =>
      rw [Nat.zero_mul, Nat.zero_add, List.getElem?_append_left (by simpa [stC] using hj)]
      rfl
    | succ k =>
      rw [List.getElem?_append_right (by simp [stC]; omega)]
      have e : (k + 1) * 5 + j - (stC a).length = k * 5 + j := by simp [stC]; omega
      rw [e, ih k (by simpa using h)]
      rfl
theorem msC_set (l r : List Ms) (m : Ms) (x y : Int) (t : Stp) (ht : stK t = ((stK m.st).1, (stK m.st).2.1, x, y)) : ((msC (l ++ m :: r)).set (l.length * 5 + 3) (.int .i64 x)).set (l.length * 5 + 4) (.int .i64 y) = msC (l ++ ⟨t, m.a, m.n, m.c⟩ :: r) := by
  rw [msC_append, msC_append, ← msC_length, List.set_append_right _ _ (by omega), List.set_append_right _ _ (by omega)]
  congr 1
  have e1 : (msC l).length + 3 - (msC l).length = 3 := by omega
  have e2 : (msC l).length + 4 - (msC l).length = 4 := by omega
  rw [e1, e2]
  show ((stC m ++ msC r).set 3 _).set 4 _ = stC _ ++ msC r
  simp [stC, ht, Ms.cv]
/-- The class of a step. -/
def MsOk (w : World) (F : Nat → Prop) (m : Ms) : Prop := match m.st with
  | .take l neg => ∃ A : List Sp, m.n = A.length ∧ RowF w F 104 2 m.cv A.length (spC A) ∧ ClsOk A l neg
  | _ => m.a = none ∧ m.n = 0 ∧ m.c = 0
theorem MsOk.to {w W : World} {F : Nat → Prop} {m : Ms} (hb : ∀ j, F j → W.heap[j]? = w.heap[j]?) (h : MsOk w F m) : MsOk W F m := by
  unfold MsOk at h ⊢
  cases hs : m.st with
  | take l neg =>
    rw [hs] at h
    obtain ⟨A, h1, h2, h3⟩ := h
    exact ⟨A, h1, RowF.to (fun j hj => hj) hb h2, h3⟩
  | start => rw [hs] at h; exact h
  | stop => rw [hs] at h; exact h
  | note k => rw [hs] at h; exact h
  | fork a b => rw [hs] at h; exact h
  | jump a => rw [hs] at h; exact h
  | yes => rw [hs] at h; exact h
def sV (va : Option Addr) (ms : List Ms) (c : Nat) : Value := .slice va ms.length c
/-- The writer at a world: its block, its steps; what it reads lies elsewhere. -/
structure WrA (F : Nat → Prop) (X : Nat) (W : World) (va : Option Addr) (c : Nat) (ms : List Ms) : Prop where
  wr : W.heap[X]? = some (.cells #[.slice va ms.length c] 68)
  row : W.ownsRow 0 72 5 (.slice va ms.length c) ms.length (msC ms)
  ne : (sV va ms c).ownBlock ≠ some X
  far : ∀ b, F b → b < W.heap.size ∧ b ≠ X ∧ (sV va ms c).ownBlock ≠ some b
  cls : ∀ m ∈ ms, MsOk W F m
/-- What the writer leaves alone: all but its block and its steps. -/
structure WrK (X : Nat) (W : World) (v : Value) (W' : World) (v' : Value) : Prop where
  kept : Kept (fun b => b = X ∨ v.ownBlock = some b) W W'
  own : ∀ b, v'.ownBlock = some b → v.ownBlock = some b ∨ W.heap.size ≤ b
theorem WrK.refl (X : Nat) (W : World) (v : Value) : WrK X W v W v := ⟨Kept.refl _ _, fun _b h => Or.inl h⟩
theorem WrK.trans {X : Nat} {a b c : World} {u v x : Value} (h : WrK X a u b v) (k : WrK X b v c x) : WrK X a u c x := by
  refine ⟨h.kept.trans k.kept (fun i hi h9 => ?_), fun i hi => ?_⟩
  · rcases h9 with rfl | h9
    · exact Or.inl rfl
    · rcases h.own i h9 with h8 | h8
      · exact Or.inr h8
      · omega
  · rcases k.own i hi with h9 | h9
    · exact h.own i h9
    · exact Or.inr (Nat.le_trans h.kept.size h9)
section
variable {F : Nat → Prop} {X : Nat} {W W' : World} {va va' : Option Addr} {c c' : Nat} {ms ms' : List Ms}
theorem WrA.c0 (h : WrA F X W va c ms) : W.cell? ⟨X, 0, none⟩ = some (.slice va ms.length c) := by rw [cell_of_heap h.wr]; rfl
theorem WrA.f0 (h : WrA F X W va c ms) : W.frozen? ⟨X, 0, none⟩ = false := frozen_of_heap h.wr
theorem WrA.lt (h : WrA F X W va c ms) : X < W.heap.size := (Array.getElem?_eq_some_iff.1 h.wr).1
/-- What is read lies where it lay. -/
theorem WrA.read (h : WrA F X W va c ms) {v' : Value} (k : WrK X W (sV va ms c) W' v') : ∀ b, F b → W'.heap[b]? = W.heap[b]? := fun b hb => by
  obtain ⟨h1, h2, h3⟩ := h.far b hb
  exact k.kept.block b h1 (fun e => e.elim h2 h3)
/-- One step more. -/
theorem WrA.push (h : WrA F X W va c ms) {W0 W5 : World} (hb : Below W.heap.size W W0) {m : Ms} (hm : MsOk W F m) {a5 : Option Addr} {c5 : Nat} (hr : W5.ownsRow 0 72 5 (.slice a5 (ms.length + 1) c5) (ms.length + 1) (msC ms ++ stC m)) (hg : W0.grownBy W5 (Value.slice va ms.length c).ownBlock) (ho : (Value.slice a5 (ms.length + 1) c5).ownBlock = (Value.slice va ms.length c).ownBlock ∨ (Value.slice a5 (ms.length + 1) c5).ownBlock = some W0.heap.size) {v : Value} (hv : v = .slice a5 (ms.length + 1) c5) :
    WrA F X (W5.setCell ⟨X, 0, none⟩ v) a5 c5 (ms ++ [m]) ∧ WrK X W (sV va ms c) (W5.setCell ⟨X, 0, none⟩ v) (sV a5 (ms ++ [m]) c5) := by
  subst hv
  have hlt := h.lt
  have hle : W.heap.size ≤ W0.heap.size := hb.size
  have hl1 : (ms ++ [m]).length = ms.length + 1 := by simp
  have hsV : sV a5 (ms ++ [m]) c5 = .slice a5 (ms.length + 1) c5 := by unfold sV; rw [hl1]
  have h5 : ∀ q, q < W.heap.size → (sV va ms c).ownBlock ≠ some q → W5.heap[q]? = W.heap[q]? := fun q hq hn => (hg.block q (by omega) (fun e => hn e.symm)).trans (hb.block q hq)
  have hX5 : W5.heap[X]? = some (.cells #[.slice va ms.length c] 68) := (h5 X hlt h.ne).trans h.wr
  have hoth : ∀ q, q ≠ X → (W5.setCell ⟨X, 0, none⟩ (.slice a5 (ms.length + 1) c5)).heap[q]? = W5.heap[q]? := fun q hq => Below.heap_setCell _ _ _ _ (by exact hq)
  have hown : ∀ q, (Value.slice a5 (ms.length + 1) c5).ownBlock = some q → (sV va ms c).ownBlock = some q ∨ W.heap.size ≤ q := fun q hq => by
    rcases ho with ho | ho
    · exact Or.inl (ho.symm.trans hq)
    · rw [ho] at hq
      injection hq with hq
      exact Or.inr (by omega)
  have hneX : (Value.slice a5 (ms.length + 1) c5).ownBlock ≠ some X := fun e => (hown X e).elim h.ne (fun h9 => by omega)
  have hfar : ∀ b, F b → b < W.heap.size ∧ b ≠ X ∧ (Value.slice a5 (ms.length + 1) c5).ownBlock ≠ some b := fun b hb => by
    obtain ⟨f1, f2, f3⟩ := h.far b hb
    exact ⟨f1, f2, fun e => (hown b e).elim f3 (fun h9 => by omega)⟩
  have hread : ∀ b, F b → (W5.setCell ⟨X, 0, none⟩ (.slice a5 (ms.length + 1) c5)).heap[b]? = W.heap[b]? := fun b hb => by
    obtain ⟨f1, f2, f3⟩ := h.far b hb
    exact (hoth b f2).trans (h5 b f1 f3)
  have hsz : (W5.setCell ⟨X, 0, none⟩ (.slice a5 (ms.length + 1) c5)).heap.size = W5.heap.size := by simp
  have hg5 := hg.size
  refine ⟨⟨?_, ?_, by rw [hsV]; exact hneX, fun b hb => by rw [hsV, hsz]; have := hfar b hb; exact ⟨by omega, this.2⟩, fun x hx => ?_⟩, ?_, fun q hq => ?_⟩
  · rw [heap_setCell_same hX5, hl1]
    rfl
  · rw [hl1, msC_append]
    exact ownsRow_heap hr (fun q hq => hoth q (fun e => hneX (e ▸ hq)))
  · rcases List.mem_append.1 hx with hx | hx
    · exact (h.cls x hx).to hread
    · rw [List.mem_singleton.1 hx]
      exact hm.to hread
  · have hk : Kept (fun b => b = X ∨ (sV va ms c).ownBlock = some b) W W5 := ((Kept.refl _ W).below hb).grown hg (fun q hq e => Or.inr e)
    exact hk.setCell (p := ⟨X, 0, none⟩) (fun _ => Or.inl rfl) _
  · rw [hsV] at hq
    exact hown q hq
end
theorem appSt : App Tryd.prog 66 72 5 := App.of (z := .agg #[.int .i64 0, .slice none 0 0, .int .i64 0, .int .i64 0, .int .i64 0]) (bytes := 56) Tryd.underlying66 (by kernel_rfl) rfl (by decide) (by decide)
end Go.Proofs.YtmbkcmfcdjccoaaDoor

/- The steps of an expression: one more; where a fork leads. -/
namespace Go.Proofs.YtmbkcmfcdjccoaaDoor
open Go.RowKit Go.Maps

theorem loneStep (w : World) (m : Ms) {b : Nat} (h : w.heap.size = b) : RowAt (w.alloc (.cells #[.int .i64 (stK m.st).1, m.cv, .int .i64 (stK m.st).2.1, .int .i64 (stK m.st).2.2.1, .int .i64 (stK m.st).2.2.2] 72)) (.slice (some ⟨b, 0, none⟩) 1 1) 5 1 (stC m) := by
  subst h
  exact RowAt.of_block (cs := #[.int .i64 (stK m.st).1, m.cv, .int .i64 (stK m.st).2.1, .int .i64 (stK m.st).2.2.1, .int .i64 (stK m.st).2.2.2]) (heap_alloc_new w _) rfl (by decide)
/-- What lies behind the append. -/
theorem WrA.seen {F : Nat → Prop} {X : Nat} {W W0 W5 : World} {va : Option Addr} {c : Nat} {ms : List Ms} (h : WrA F X W va c ms) (hb : Below W.heap.size W W0) (hg : W0.grownBy W5 (Value.slice va ms.length c).ownBlock) : W5.cell? ⟨X, 0, none⟩ = some (.slice va ms.length c) ∧ W5.frozen? ⟨X, 0, none⟩ = false := by
  have hlt := h.lt
  have hX5 : W5.heap[X]? = some (.cells #[.slice va ms.length c] 68) := (hg.block X (Nat.lt_of_lt_of_le hlt hb.size) (fun e => h.ne e.symm)).trans ((hb.block X hlt).trans h.wr)
  exact ⟨by rw [cell_of_heap hX5]; rfl, frozen_of_heap hX5⟩

set_option maxRecDepth 100000 in
set_option maxHeartbeats 2000000 in
/-- One step more: where it stands. -/
theorem add_any (F : Nat → Prop) (X : Nat) (w : World) (va : Option Addr) (c : Nat) (ms : List Ms) (m : Ms) (h : WrA F X w va c ms) (hm : MsOk w F m) (hl : ms.length ≤ 100000) :
    Calls Tryd.prog 27 #[.pointer (some ⟨X, 0, none⟩), .agg #[.int .i64 (stK m.st).1, m.cv, .int .i64 (stK m.st).2.1, .int .i64 (stK m.st).2.2.1, .int .i64 (stK m.st).2.2.2]] w fun e w' => e = .returned (.int .i64 ms.length) ∧ ∃ va' c', WrA F X w' va' c' (ms ++ [m]) ∧ WrK X w (sV va ms c) w' (sV va' (ms ++ [m]) c') := by
  have HA : Hid (WrA F X w va c ms ∧ MsOk w F m) := ⟨h, hm⟩
  have HL : Hid (∀ (w : World) {b : Nat}, w.heap.size = b → RowAt (w.alloc (.cells #[.int .i64 (stK m.st).1, m.cv, .int .i64 (stK m.st).2.1, .int .i64 (stK m.st).2.2.1, .int .i64 (stK m.st).2.2.2] 72)) (.slice (some ⟨b, 0, none⟩) 1 1) 5 1 (stC m)) := fun w b hb => loneStep w m hb
  have HR : Hid (∀ W, Below w.heap.size w W → W.ownsRow 0 72 5 (.slice va ms.length c) ms.length (msC ms)) := fun W hW => row_below h.row hW
  have HS : Hid (∀ W0 W5, Below w.heap.size w W0 → W0.grownBy W5 (Value.slice va ms.length c).ownBlock → W5.cell? ⟨X, 0, none⟩ = some (.slice va ms.length c) ∧ W5.frozen? ⟨X, 0, none⟩ = false) := fun W0 W5 hb hg => h.seen hb hg
  have HP : Hid (∀ (W0 W5 : World) (a5 : Option Addr) (c5 : Nat) (v : Value), Below w.heap.size w W0 → W5.ownsRow 0 72 5 (.slice a5 (ms.length + 1) c5) (ms.length + 1) (msC ms ++ stC m) → W0.grownBy W5 (Value.slice va ms.length c).ownBlock → ((Value.slice a5 (ms.length + 1) c5).ownBlock = (Value.slice va ms.length c).ownBlock ∨ (Value.slice a5 (ms.length + 1) c5).ownBlock = some W0.heap.size) → v = .slice a5 (ms.length + 1) c5 → WrA F X (W5.setCell ⟨X, 0, none⟩ v) a5 c5 (ms ++ [m]) ∧ WrK X w (sV va ms c) (W5.setCell ⟨X, 0, none⟩ v) (sV a5 (ms ++ [m]) c5)) := fun W0 W5 a5 c5 v hb hr hg ho hv => h.push hb hm hr hg ho hv
  have c0 := h.c0
  have f0 := h.f0
  have hlt := h.lt
  have hone := stC_one m
  have HB1 : Hid (∀ o, Below w.heap.size w (w.alloc o).drew) := fun o => ((Below.refl _ w).alloc (Nat.le_refl _) _).drew
  have HB2 : Hid (∀ o o2, Below w.heap.size w ((w.alloc o).drew.alloc o2)) := fun o o2 => (HB1.out o).alloc (HB1.out o).size _
  have HB3 : Hid (∀ o o2, Below w.heap.size w ((w.alloc o).alloc o2).drew) := fun o o2 => (((Below.refl _ w).alloc (Nat.le_refl _) o).alloc ((Below.refl _ w).alloc (Nat.le_refl _) o).size _).drew
  have HON : Hid (∀ u ∈ stC m, u.oneCell' = true) := hone
  clear h hm hone
  generalize (stK m.st).1 = k1 at *
  generalize (stK m.st).2.1 = k2 at *
  generalize (stK m.st).2.2.1 = k3 at *
  generalize (stK m.st).2.2.2 = k4 at *
  generalize ms.length = K at *
  unfold Ms.cv at *
  go_enter Tryd.func27, Tryd.ntmps27
  go_wp2
  go_region_law (refine step_append_row appSt _ (by rfl) _ _ (by rfl) 0 _ K (msC ms) (by rfl) (HR.out _ (by first | exact HB2.out _ _ | exact HB3.out _ _)) _ 1 (stC m) (by rfl) (HL.out _ (by first | rfl | simp)) HON.out (by omega) (Nat.zero_le _) ?_; intro a5 c5 w5 hr5 hg5 ho5; obtain ⟨x0, x1⟩ := HS.out _ _ (by first | exact HB2.out _ _ | exact HB3.out _ _) hg5; have HF : Hid (∀ v, v = Value.slice a5 (K + 1) c5 → _) := (fun v hv => HP.out _ _ _ _ v (by first | exact HB2.out _ _ | exact HB3.out _ _) hr5 hg5 ho5 hv); clear hr5 hg5 ho5)
  all_goals
    go_wp2
    go_ret
    refine ⟨?_, a5, c5, HF.out _ rfl⟩
    first | rfl | go_num
theorem bare_ok {w : World} {F : Nat → Prop} {t : Stp} (h : ∀ l neg, t ≠ .take l neg) : MsOk w F (bare t) := by
  unfold MsOk bare
  cases t with
  | take l neg => exact absurd rfl (h l neg)
  | start => exact ⟨rfl, rfl, rfl⟩
  | stop => exact ⟨rfl, rfl, rfl⟩
  | note k => exact ⟨rfl, rfl, rfl⟩
  | fork a b => exact ⟨rfl, rfl, rfl⟩
  | jump a => exact ⟨rfl, rfl, rfl⟩
  | yes => exact ⟨rfl, rfl, rfl⟩
/-- A bare step more. -/
theorem add_bare (F : Nat → Prop) (X : Nat) (w : World) (va : Option Addr) (c : Nat) (ms : List Ms) (t : Stp) {k1 k2 k3 k4 : Int} (ht : stK t = (k1, k2, k3, k4)) (hn : ∀ l neg, t ≠ .take l neg) (h : WrA F X w va c ms) (hl : ms.length ≤ 100000) :
    Calls Tryd.prog 27 #[.pointer (some ⟨X, 0, none⟩), .agg #[.int .i64 k1, .slice none 0 0, .int .i64 k2, .int .i64 k3, .int .i64 k4]] w fun e w' => e = .returned (.int .i64 ms.length) ∧ ∃ va' c', WrA F X w' va' c' (ms ++ [bare t]) ∧ WrK X w (sV va ms c) w' (sV va' (ms ++ [bare t]) c') := by
  have h9 := add_any F X w va c ms (bare t) h (bare_ok hn) hl
  rw [show (bare t).st = t from rfl, ht] at h9
  exact h9
set_option maxRecDepth 100000 in
theorem fork_any (F : Nat → Prop) (X : Nat) (w : World) (va : Option Addr) (c : Nat) (ms : List Ms) (h : WrA F X w va c ms) (hl : ms.length ≤ 100000) :
    Calls Tryd.prog 36 #[.pointer (some ⟨X, 0, none⟩)] w fun e w' => e = .returned (.int .i64 ms.length) ∧ ∃ va' c', WrA F X w' va' c' (ms ++ [bare (.fork 0 0)]) ∧ WrK X w (sV va ms c) w' (sV va' (ms ++ [bare (.fork 0 0)]) c') := by
  have HA : Hid (Calls Tryd.prog 27 #[.pointer (some ⟨X, 0, none⟩), .agg #[.int .i64 4, .slice none 0 0, .int .i64 0, .int .i64 0, .int .i64 0]] w fun e w' => e = .returned (.int .i64 ms.length) ∧ ∃ va' c', WrA F X w' va' c' (ms ++ [bare (.fork 0 0)]) ∧ WrK X w (sV va ms c) w' (sV va' (ms ++ [bare (.fork 0 0)]) c')) := add_bare F X w va c ms (.fork 0 0) rfl (fun _ _ h => by cases h) h hl
  clear h
  go_enter Tryd.func36, Tryd.ntmps36
  go_wp2_with (go_at_call 27; refine HA.out.mono ?_; clear HA; rintro e w1 ⟨rfl, hr⟩; have HR : Hid _ := hr; clear hr)
  go_ret
  exact ⟨rfl, HR.out⟩
/-- A step of the writer is turned, in its place. -/
theorem WrA.turn {F : Nat → Prop} {X : Nat} {W : World} {g c : Nat} {l r : List Ms} {m : Ms} {x y : Int} {t : Stp} (h : WrA F X W (some ⟨g, 0, none⟩) c (l ++ m :: r)) (ht : stK t = ((stK m.st).1, (stK m.st).2.1, x, y)) (hm : ∀ l neg, m.st ≠ .take l neg) (ht2 : ∀ l neg, t ≠ .take l neg) {W' : World} (hw : W' = (W.setCell ⟨g, l.length * 5 + 3, none⟩ (.int .i64 x)).setCell ⟨g, l.length * 5 + 4, none⟩ (.int .i64 y)) :
    WrA F X W' (some ⟨g, 0, none⟩) c (l ++ ⟨t, m.a, m.n, m.c⟩ :: r) ∧ WrK X W (sV (some ⟨g, 0, none⟩) (l ++ m :: r) c) W' (sV (some ⟨g, 0, none⟩) (l ++ ⟨t, m.a, m.n, m.c⟩ :: r) c) := by
  subst hw
  have hlen : (l ++ (⟨t, m.a, m.n, m.c⟩ : Ms) :: r).length = (l ++ m :: r).length := by simp
  have hob : (sV (some ⟨g, 0, none⟩) (l ++ m :: r) c).ownBlock = some g := rfl
  have hgX : g ≠ X := fun e => h.ne (by rw [hob, e])
  have hoth : ∀ q, q ≠ g → ((W.setCell ⟨g, l.length * 5 + 3, none⟩ (.int .i64 x)).setCell ⟨g, l.length * 5 + 4, none⟩ (.int .i64 y)).heap[q]? = W.heap[q]? := fun q hq => by rw [Below.heap_setCell _ _ _ _ (by exact hq), Below.heap_setCell _ _ _ _ (by exact hq)]
  have hrow := ownsRow_set (ownsRow_set h.row (g := g) rfl (i := l.length * 5 + 3) (.int .i64 x)) (g := g) rfl (i := l.length * 5 + 4) (.int .i64 y)
  rw [msC_set l r m x y t ht] at hrow
  have hsz : ((W.setCell ⟨g, l.length * 5 + 3, none⟩ (.int .i64 x)).setCell ⟨g, l.length * 5 + 4, none⟩ (.int .i64 y)).heap.size = W.heap.size := by simp
  have hread : ∀ b, F b → ((W.setCell ⟨g, l.length * 5 + 3, none⟩ (.int .i64 x)).setCell ⟨g, l.length * 5 + 4, none⟩ (.int .i64 y)).heap[b]? = W.heap[b]? := fun b hb => hoth b (fun e => (h.far b hb).2.2 (by rw [hob, e]))
  refine ⟨⟨?_, ?_, ?_, fun b hb => ?_, fun x hx => ?_⟩, ⟨?_, fun b hb => Or.inl hb⟩⟩
  · rw [hoth X (fun e => hgX e.symm), hlen]
    exact h.wr
  · rw [hlen]
    exact hrow
  · intro e
    exact h.ne e
  · rw [hsz]
    exact h.far b hb
  · rcases List.mem_append.1 hx with hx | hx
    · exact (h.cls x (List.mem_append.2 (Or.inl hx))).to hread
    · rcases List.mem_cons.1 hx with rfl | hx
      · have h9 := h.cls m (List.mem_append.2 (Or.inr (List.mem_cons_self)))
        unfold MsOk at h9 ⊢
        dsimp only
        cases hs : m.st with
        | take l neg => exact absurd hs (hm l neg)
        | _ =>
          rw [hs] at h9
          cases t with
          | take l neg => exact absurd rfl (ht2 l neg)
          | _ => exact h9
      · exact (h.cls x (List.mem_append.2 (Or.inr (List.mem_cons_of_mem _ hx)))).to hread
  · have hk : Kept (fun b => b = X ∨ (sV (some ⟨g, 0, none⟩) (l ++ m :: r) c).ownBlock = some b) W W := Kept.refl _ _
    exact (hk.setCell (p := ⟨g, l.length * 5 + 3, none⟩) (fun _ => Or.inr rfl) _).setCell (p := ⟨g, l.length * 5 + 4, none⟩) (fun _ => Or.inr rfl) _
end Go.Proofs.YtmbkcmfcdjccoaaDoor
