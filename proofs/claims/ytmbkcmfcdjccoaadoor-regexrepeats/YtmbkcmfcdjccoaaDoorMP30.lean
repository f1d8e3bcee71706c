/- Texts that belong together. -/
import Derived.Test.YtmbkcmfcdjccoaaDoorMP28
/- The steps of an expression: where a fork leads. -/
namespace Go.Proofs.YtmbkcmfcdjccoaaDoor
open Go.RowKit Go.Maps

theorem WrA.addr {F : Nat → Prop} {X : Nat} {W : World} {va : Option Addr} {c : Nat} {ms : List Ms} (h : WrA F X W va c ms) (hn : ms ≠ []) : ∃ g, va = some ⟨g, 0, none⟩ := by
  rcases h.row.2 with ⟨h1, h2⟩ | ⟨g, cap, cur, e1, _⟩
  · exfalso
    cases ms with
    | nil => exact hn rfl
    | cons a t =>
      injection h1 with _ h1
      first | simp at h1 | (simp at h2)
  · injection e1 with e1
    exact ⟨g, e1⟩
theorem WrA.drew {F : Nat → Prop} {X : Nat} {W : World} {va : Option Addr} {c : Nat} {ms : List Ms} (h : WrA F X W va c ms) : WrA F X W.drew va c ms := ⟨h.wr, h.row, h.ne, h.far, fun m hm => MsOk.to (w := W) (W := W.drew) (fun _ _ => rfl) (h.cls m hm)⟩
theorem WrK.drew {X : Nat} {W W' : World} {v v' : Value} (h : WrK X W v W' v') : WrK X W v W'.drew v' := ⟨h.kept.drewN 1, h.own⟩
theorem stK_fork (lz : Bool) (a b : Nat) : stK (forkS lz a b) = (4, 0, if lz = true then (b : Int) else a, if lz = true then (a : Int) else b) := by cases lz <;> rfl

set_option maxRecDepth 100000 in
set_option maxHeartbeats 2000000 in
theorem lead_any (F : Nat → Prop) (X : Nat) (w : World) (va : Option Addr) (c : Nat) (l r : List Ms) (p q a b : Nat) (lz : Bool) (h : WrA F X w va c (l ++ bare (.fork p q) :: r)) (_hl : (l ++ bare (.fork p q) :: r).length ≤ 100000) (_ha : a ≤ 1000000) (_hb : b ≤ 1000000) :
    Calls Tryd.prog 37 #[.pointer (some ⟨X, 0, none⟩), .int .i64 l.length, .int .i64 a, .int .i64 b, .bool lz] w fun e w' => e = .returned (.tuple #[]) ∧ ∃ c', WrA F X w' va c' (l ++ bare (forkS lz a b) :: r) ∧ WrK X w (sV va (l ++ bare (.fork p q) :: r) c) w' (sV va (l ++ bare (forkS lz a b) :: r) c') := by
  obtain ⟨g, rfl⟩ := h.addr (by simp)
  have HT : Hid (∀ W', W' = (w.setCell ⟨g, l.length * 5 + 3, none⟩ (.int .i64 (if lz = true then (b : Int) else a))).setCell ⟨g, l.length * 5 + 4, none⟩ (.int .i64 (if lz = true then (a : Int) else b)) → WrA F X W' (some ⟨g, 0, none⟩) c (l ++ bare (forkS lz a b) :: r) ∧ WrK X w (sV (some ⟨g, 0, none⟩) (l ++ bare (.fork p q) :: r) c) W' (sV (some ⟨g, 0, none⟩) (l ++ bare (forkS lz a b) :: r) c)) := fun W' hw => h.turn (m := bare (.fork p q)) (t := forkS lz a b) (stK_fork lz a b) (fun _ _ e => by cases e) (fun _ _ e => by cases lz <;> cases e) hw
  have c0 := h.c0
  have hgX : g ≠ X := fun e => h.ne (by rw [e]; rfl)
  have hN : l.length < (l ++ bare (.fork p q) :: r).length := by simp
  obtain ⟨⟨u3, r3⟩, s3⟩ := row_cell h.row (j := l.length * 5 + 3) (by omega)
  obtain ⟨⟨u4, r4⟩, s4⟩ := row_cell h.row (j := l.length * 5 + 4) (by omega)
  have HK : Hid (∀ (W : World) (o : Nat) (v : Value), W.cell? ⟨X, 0, none⟩ = some (Value.slice (some ⟨g, 0, none⟩) (l ++ bare (.fork p q) :: r).length c) → (W.setCell ⟨g, o, none⟩ v).cell? ⟨X, 0, none⟩ = some (Value.slice (some ⟨g, 0, none⟩) (l ++ bare (.fork p q) :: r).length c)) := fun W o v hW => (World.cell?_of_block (Below.heap_setCell _ _ _ _ (by exact fun e => hgX e.symm))).trans hW
  clear h
  generalize (l ++ bare (.fork p q) :: r).length = N at *
  generalize l.length = f at *
  have hNz : (f : Int) < N := by omega
  cases lz with
  | false =>
    go_enter Tryd.func37, Tryd.ntmps37
    go_wp2
    go_region_held3 (fun W => W.cell? ⟨X, 0, none⟩ = some (.slice (some ⟨g, 0, none⟩) N c)) (first | go_keep | exact HK.out _ _ _ (by assumption) | exact HK.out _ _ _ (HK.out _ _ _ (by assumption))) (fail)
    all_goals
      go_wp2
      go_end0
      exact ⟨rfl, c, (HT.out _ rfl).1.drew, (HT.out _ rfl).2.drew⟩
  | true =>
    go_enter Tryd.func37, Tryd.ntmps37
    go_wp2
    go_region_held3 (fun W => W.cell? ⟨X, 0, none⟩ = some (.slice (some ⟨g, 0, none⟩) N c)) (first | go_keep | exact HK.out _ _ _ (by assumption) | exact HK.out _ _ _ (HK.out _ _ _ (by assumption))) (fail)
    all_goals
      go_wp2
      go_end0
      exact ⟨rfl, c, (HT.out _ rfl).1.drew, (HT.out _ rfl).2.drew⟩
end Go.Proofs.YtmbkcmfcdjccoaaDoor

/- The steps of an expression: the writer under way. -/
namespace Go.Proofs.YtmbkcmfcdjccoaaDoor
open Go.RowKit Go.Maps

/-- The writer under way, from a world on. -/
structure WrS (F : Nat → Prop) (X : Nat) (w : World) (v0 : Value) (W : World) (va : Option Addr) (c : Nat) (ms : List Ms) : Prop where
  a : WrA F X W va c ms
  k : WrK X w v0 W (sV va ms c)
section
variable {F : Nat → Prop} {X : Nat} {w : World} {v0 : Value}
theorem WrS.start {va : Option Addr} {c : Nat} {ms : List Ms} (h : WrA F X w va c ms) : WrS F X w (sV va ms c) w va c ms := ⟨h, WrK.refl _ _ _⟩
theorem WrS.read {W : World} {va va' : Option Addr} {c c' : Nat} {ms ms' : List Ms} (h : WrA F X w va c ms) (H : WrS F X w (sV va ms c) W va' c' ms') : ∀ b, F b → W.heap[b]? = w.heap[b]? := h.read H.k
theorem add_is : Hid (∀ W va c ms m, WrS F X w v0 W va c ms → MsOk W F m → ms.length ≤ 100000 → Calls Tryd.prog 27 #[.pointer (some ⟨X, 0, none⟩), .agg #[.int .i64 (stK m.st).1, m.cv, .int .i64 (stK m.st).2.1, .int .i64 (stK m.st).2.2.1, .int .i64 (stK m.st).2.2.2]] W fun e w' => e = .returned (.int .i64 ms.length) ∧ ∃ va' c', WrS F X w v0 w' va' c' (ms ++ [m])) := fun W va c ms m H hm hl => (add_any F X W va c ms m H.a hm hl).mono (fun e w' h => by
  obtain ⟨he, va', c', h1, h2⟩ := h
  exact ⟨he, va', c', h1, H.k.trans h2⟩)
theorem bare_is {t : Stp} {k1 k2 k3 k4 : Int} (ht : stK t = (k1, k2, k3, k4)) (hn : ∀ l neg, t ≠ .take l neg) : Hid (∀ W va c ms, WrS F X w v0 W va c ms → ms.length ≤ 100000 → Calls Tryd.prog 27 #[.pointer (some ⟨X, 0, none⟩), .agg #[.int .i64 k1, .slice none 0 0, .int .i64 k2, .int .i64 k3, .int .i64 k4]] W fun e w' => e = .returned (.int .i64 ms.length) ∧ ∃ va' c', WrS F X w v0 w' va' c' (ms ++ [bare t])) := fun W va c ms H hl => (add_bare F X W va c ms t ht hn H.a hl).mono (fun e w' h => by
  obtain ⟨he, va', c', h1, h2⟩ := h
  exact ⟨he, va', c', h1, H.k.trans h2⟩)
theorem fork_is : Hid (∀ W va c ms, WrS F X w v0 W va c ms → ms.length ≤ 100000 → Calls Tryd.prog 36 #[.pointer (some ⟨X, 0, none⟩)] W fun e w' => e = .returned (.int .i64 ms.length) ∧ ∃ va' c', WrS F X w v0 w' va' c' (ms ++ [bare (.fork 0 0)])) := fun W va c ms H hl => (fork_any F X W va c ms H.a hl).mono (fun e w' h => by
  obtain ⟨he, va', c', h1, h2⟩ := h
  exact ⟨he, va', c', h1, H.k.trans h2⟩)
theorem lead_is : Hid (∀ (W : World) (va : Option Addr) (c : Nat) (ms l r : List Ms) (p q f a b : Nat) (lz : Bool), WrS F X w v0 W va c ms → ms = l ++ bare (.fork p q) :: r → f = l.length → ms.length ≤ 100000 → a ≤ 1000000 → b ≤ 1000000 → Calls Tryd.prog 37 #[.pointer (some ⟨X, 0, none⟩), .int .i64 f, .int .i64 a, .int .i64 b, .bool lz] W fun e w' => e = .returned (.tuple #[]) ∧ ∃ c', WrS F X w v0 w' va c' (l ++ bare (forkS lz a b) :: r)) := fun W va c ms l r p q f a b lz H hms hf hl ha hb => by
  subst hms hf
  exact (lead_any F X W va c l r p q a b lz H.a hl ha hb).mono (fun e w' h => by
    obtain ⟨he, c', h1, h2⟩ := h
    exact ⟨he, c', h1, H.k.trans h2⟩)
end
/-- Steps were added. -/
def WrD (F : Nat → Prop) (X : Nat) (w : World) (v0 : Value) (ms : List Ms) (add : List Stp) (w' : World) : Prop := ∃ va' c' m2, WrS F X w v0 w' va' c' (ms ++ m2) ∧ m2.map Ms.st = add
/-- What writing a part asks, and does. -/
def WrC (x : Nd) : Prop := WfN x → GrN 10000 x → ∀ (F : Nat → Prop) (X p : Nat) (w : World) (va : Option Addr) (c : Nat) (ms : List Ms), WrA F X w va c ms → NdAt w F x p → (ms.length : Int) + sizeN x ≤ 2000 → Calls Tryd.prog 26 #[.pointer (some ⟨X, 0, none⟩), .pointer (some ⟨p, 0, none⟩)] w fun e w' => e = .returned (.tuple #[]) ∧ WrD F X w (sV va ms c) ms (emitN x ms.length) w'
theorem WrC.is {x : Nd} (hC : WrC x) (hw : WfN x) (hg : GrN 10000 x) {F : Nat → Prop} {X : Nat} {w : World} {v0 : Value} {p : Nat} : Hid (∀ W va c ms, WrS F X w v0 W va c ms → NdAt W F x p → (ms.length : Int) + sizeN x ≤ 2000 → Calls Tryd.prog 26 #[.pointer (some ⟨X, 0, none⟩), .pointer (some ⟨p, 0, none⟩)] W fun e w' => e = .returned (.tuple #[]) ∧ WrD F X w v0 ms (emitN x ms.length) w') := fun W va c ms H hx hl => (hC hw hg F X p W va c ms H.a hx hl).mono (fun e w' h => by
  obtain ⟨he, va', c', m2, h1, h2⟩ := h
  exact ⟨he, va', c', m2, ⟨h1.a, H.k.trans h1.k⟩, h2⟩)
/-- The parts of a node, read. -/
theorem PtsAt.get {w : World} {F : Nat → Prop} {v : Value} {ps : List Nat} (h : PtsAt w F v ps) {i : Nat} (hi : i < ps.length) : ∃ g c, v = .slice (some ⟨g, 0, none⟩) ps.length c ∧ F g ∧ ∀ W : World, (∀ j, F j → W.heap[j]? = w.heap[j]?) → W.cell? ⟨g, i, none⟩ = some (.pointer (some ⟨ps[i], 0, none⟩)) := by
  obtain ⟨a, c, rfl⟩ := slice_of_row h.1
  have hl : (ps.map ptrV)[i]? = some (.pointer (some ⟨ps[i], 0, none⟩)) := by
    rw [List.getElem?_map, List.getElem?_eq_getElem hi]
    rfl
  rcases h.1.2 with ⟨h1, h2⟩ | ⟨g, cap, cur, e1, h2, h3, h4, h5⟩
  · omega
  · injection e1 with e1 _ e3
    subst e1 e3
    have hF : F g := h.2 g rfl
    refine ⟨g, _, rfl, hF, fun W hW => ?_⟩
    have hc := World.ownsRow.cells h.1 (g := g) rfl i _ hl
    rw [Addr.add_lit, Nat.zero_add] at hc
    exact (World.cell?_of_block (hW g hF)).trans hc

set_option maxRecDepth 100000 in
set_option maxHeartbeats 2000000 in
theorem write_take (l : List Sp) (neg : Bool) : WrC (.take l neg) := by
  intro _ _ F X p w va c ms h hx hl
  have hz : sizeN (.take l neg) = 1 := by unfold sizeN; rfl
  rw [hz] at hl
  unfold NdAt at hx
  obtain ⟨hp, v, A, hn, hr, hc⟩ := hx
  obtain ⟨a, d, rfl⟩ := slice_of_row hr.1
  have k7 : w.cell? ⟨p, 7, none⟩ = some (.int .i64 1) := by rw [cell_of_heap hn]; rfl
  have k0 : w.cell? ⟨p, 0, none⟩ = some (.int .i64 0) := by rw [cell_of_heap hn]; rfl
  have k1 : w.cell? ⟨p, 1, none⟩ = some (.slice a A.length d) := by rw [cell_of_heap hn]; rfl
  have HADD : Hid (Calls Tryd.prog 27 #[.pointer (some ⟨X, 0, none⟩), .agg #[.int .i64 0, .slice a A.length d, .int .i64 0, .int .i64 0, .int .i64 0]] w fun e w' => e = .returned (.int .i64 ms.length) ∧ ∃ va' c', WrS F X w (sV va ms c) w' va' c' (ms ++ [⟨.take l neg, a, A.length, d⟩])) := add_is.out w va c ms ⟨.take l neg, a, A.length, d⟩ (WrS.start h) ⟨A, rfl, hr, hc⟩ (by omega)
  have hem : emitN (.take l neg) ms.length = [.take l neg] := by rw [emitN]
  rw [hem]
  clear h hn hr hc hem hz
  go_enter Tryd.func26, Tryd.ntmps26
  go_wp2_with (go_at_call 27; refine HADD.out.mono ?_; clear HADD; rintro e w1 ⟨rfl, va', c', hr⟩; have HR : Hid (WrS F X w (sV va ms c) w1 va' c' (ms ++ [⟨.take l neg, a, A.length, d⟩])) := hr; clear hr)
  go_end0
  exact ⟨rfl, va', c', _, HR.out, rfl⟩

set_option maxRecDepth 100000 in
set_option maxHeartbeats 2000000 in
theorem write_start : WrC .start := by
  intro _ _ F X p w va c ms h hx hl
  have hz : sizeN .start = 1 := by unfold sizeN; rfl
  rw [hz] at hl
  unfold NdAt at hx
  obtain ⟨hp, hn⟩ := hx
  have k7 : w.cell? ⟨p, 7, none⟩ = some (.int .i64 1) := by rw [cell_of_heap hn]; rfl
  have k0 : w.cell? ⟨p, 0, none⟩ = some (.int .i64 1) := by rw [cell_of_heap hn]; rfl
  have HADD : Hid (Calls Tryd.prog 27 #[.pointer (some ⟨X, 0, none⟩), .agg #[.int .i64 1, .slice none 0 0, .int .i64 0, .int .i64 0, .int .i64 0]] w fun e w' => e = .returned (.int .i64 ms.length) ∧ ∃ va' c', WrS F X w (sV va ms c) w' va' c' (ms ++ [bare .start])) := (bare_is (t := .start) rfl (fun _ _ e => by cases e)).out w va c ms (WrS.start h) (by omega)
  have hem : emitN .start ms.length = [.start] := by rw [emitN]
  rw [hem]
  clear h hn hem hz
  go_enter Tryd.func26, Tryd.ntmps26
  go_wp2_with (go_at_call 27; refine HADD.out.mono ?_; clear HADD; rintro e w1 ⟨rfl, va', c', hr⟩; have HR : Hid (WrS F X w (sV va ms c) w1 va' c' (ms ++ [bare .start])) := hr; clear hr)
  go_end0
  exact ⟨rfl, va', c', _, HR.out, rfl⟩

set_option maxRecDepth 100000 in
set_option maxHeartbeats 2000000 in
theorem write_stop : WrC .stop := by
  intro _ _ F X p w va c ms h hx hl
  have hz : sizeN .stop = 1 := by unfold sizeN; rfl
  rw [hz] at hl
  unfold NdAt at hx
  obtain ⟨hp, hn⟩ := hx
  have k7 : w.cell? ⟨p, 7, none⟩ = some (.int .i64 1) := by rw [cell_of_heap hn]; rfl
  have k0 : w.cell? ⟨p, 0, none⟩ = some (.int .i64 2) := by rw [cell_of_heap hn]; rfl
  have HADD : Hid (Calls Tryd.prog 27 #[.pointer (some ⟨X, 0, none⟩), .agg #[.int .i64 2, .slice none 0 0, .int .i64 0, .int .i64 0, .int .i64 0]] w fun e w' => e = .returned (.int .i64 ms.length) ∧ ∃ va' c', WrS F X w (sV va ms c) w' va' c' (ms ++ [bare .stop])) := (bare_is (t := .stop) rfl (fun _ _ e => by cases e)).out w va c ms (WrS.start h) (by omega)
  have hem : emitN .stop ms.length = [.stop] := by rw [emitN]
  rw [hem]
  clear h hn hem hz
  go_enter Tryd.func26, Tryd.ntmps26
  go_wp2_with (go_at_call 27; refine HADD.out.mono ?_; clear HADD; rintro e w1 ⟨rfl, va', c', hr⟩; have HR : Hid (WrS F X w (sV va ms c) w1 va' c' (ms ++ [bare .stop])) := hr; clear hr)
  go_end0
  exact ⟨rfl, va', c', _, HR.out, rfl⟩
end Go.Proofs.YtmbkcmfcdjccoaaDoor
