/- The steps of an expression: repeats with an end. -/
import Derived.Test.YtmbkcmfcdjccoaaDoorMP35
namespace Go.Proofs.YtmbkcmfcdjccoaaDoor
open Go.RowKit Go.Maps

theorem appInt : App Tryd.prog 42 3 1 := App.of (z := .int .i64 0) (bytes := 8) Tryd.underlying42 (by kernel_rfl) rfl (by decide) (by decide)
/-- Where the forks stand. -/
def fkC (Q z i : Nat) : List Value := (List.range i).map fun j => Value.int .i64 ((Q + j * (z + 1) : Nat) : Int)
theorem fkC_succ (Q z i : Nat) : fkC Q z (i + 1) = fkC Q z i ++ [.int .i64 ((Q + i * (z + 1) : Nat) : Int)] := by
  unfold fkC
  rw [List.range_succ, List.map_append]
  rfl
theorem fkC_get {Q z i j : Nat} (h : j < i) : (fkC Q z i)[j]? = some (.int .i64 ((Q + j * (z + 1) : Nat) : Int)) := by
  unfold fkC
  rw [List.getElem?_map, List.getElem?_range h]
  rfl
/-- The forks, in a row of their own. -/
structure FkS (w W : World) (s : Value) (Q z : Nat) (fa : Option Addr) (i fc : Nat) : Prop where
  row : W.ownsRow w.heap.size 3 1 (.slice fa i fc) i (fkC Q z i)
  ne : ∀ b, (Value.slice fa i fc).ownBlock = some b → s.ownBlock ≠ some b
section
variable {F : Nat → Prop} {X : Nat} {w W W' : World} {v0 s s' : Value} {Q z i fc : Nat} {fa : Option Addr}
theorem FkS.step (h : FkS w W s Q z fa i fc) (hX : X < w.heap.size) (k : WrK X W s W' s') : FkS w W' s' Q z fa i fc := by
  refine ⟨ownsRow_heap h.row (fun b hb => ?_), fun b hb e => ?_⟩
  · obtain ⟨h1, h2⟩ := h.row.lt b hb
    exact k.kept.block b h2 (fun e => e.elim (fun e => by omega) (fun e => h.ne b hb e))
  · obtain ⟨h1, h2⟩ := h.row.lt b hb
    rcases k.own b e with h9 | h9
    · exact h.ne b hb h9
    · omega
theorem FkS.drewN (h : FkS w W s Q z fa i fc) (q : Nat) : FkS w (W.drewN q) s Q z fa i fc := ⟨h.row, h.ne⟩
theorem WrS.drewN {va : Option Addr} {c : Nat} {ms : List Ms} (h : WrS F X w v0 W va c ms) (q : Nat) : WrS F X w v0 (W.drewN q) va c ms :=
  ⟨⟨h.a.wr, h.a.row, h.a.ne, h.a.far, fun m hm => MsOk.to (w := W) (W := W.drewN q) (fun _ _ => rfl) (h.a.cls m hm)⟩, ⟨h.k.kept.drewN q, h.k.own⟩⟩
/-- The forks grow, the writer stays. -/
theorem WrS.grownF {va : Option Addr} {c : Nat} {ms : List Ms} {o : Obj} {fo : Option Nat} {W5 : World} (hF : ∀ b, F b → b < w.heap.size) (hX : X < w.heap.size) (h : WrS F X w v0 W va c ms) (hg : (W.alloc o).grownBy W5 fo) (hfo : ∀ b, fo = some b → w.heap.size ≤ b ∧ (sV va ms c).ownBlock ≠ some b) : WrS F X w v0 W5 va c ms := by
  have hs1 : (W.alloc o).heap.size = W.heap.size + 1 := by simp
  have h5 : ∀ q, q < W.heap.size → fo ≠ some q → W5.heap[q]? = W.heap[q]? := fun q hq hn => (hg.block q (by omega) (fun e => hn e.symm)).trans (Below.heap_alloc _ _ _ (by omega))
  have hle := hg.size
  refine ⟨⟨(h5 X h.a.lt (fun e => by have := (hfo X e).1; omega)).trans h.a.wr, ownsRow_heap h.a.row (fun b hb => h5 b (h.a.row.lt b hb).2 (fun e => (hfo b e).2 hb)), h.a.ne, fun b hb => ?_, fun m hm => (h.a.cls m hm).to (fun b hb => h5 b (h.a.far b hb).1 (fun e => by have := (hfo b e).1; have := hF b hb; omega))⟩, ⟨?_, h.k.own⟩⟩
  · obtain ⟨f1, f2, f3⟩ := h.a.far b hb
    exact ⟨by omega, f2, f3⟩
  · exact ((h.k.kept.below ((Below.refl _ _).alloc (Nat.le_refl _) o)).grown hg (fun q hq e => absurd (hfo q e).1 (by omega)))
theorem FkS.push {va : Option Addr} {c : Nat} {ms : List Ms} {o : Obj} {W5 : World} {fa5 : Option Addr} {fc5 : Nat} (_hw : w.heap.size ≤ W.heap.size) (h : FkS w W (sV va ms c) Q z fa i fc) (hs : WrS F X w v0 W va c ms) (hr5 : W5.ownsRow w.heap.size 3 1 (.slice fa5 (i + 1) fc5) (i + 1) (fkC Q z i ++ [.int .i64 ((Q + i * (z + 1) : Nat) : Int)])) (ho : (Value.slice fa5 (i + 1) fc5).ownBlock = (Value.slice fa i fc).ownBlock ∨ (Value.slice fa5 (i + 1) fc5).ownBlock = some (W.alloc o).heap.size) : FkS w W5 (sV va ms c) Q z fa5 (i + 1) fc5 := by
  have hs1 : (W.alloc o).heap.size = W.heap.size + 1 := by simp
  refine ⟨by rw [fkC_succ]; exact hr5, fun b hb e => ?_⟩
  rcases ho with ho | ho
  · exact h.ne b (ho.symm.trans hb) e
  · rw [ho] at hb
    injection hb with hb
    have := (hs.a.row.lt b e).2
    omega
end
theorem loneInt (w : World) (q : Int) {m : Nat} (h : w.heap.size = m) : RowAt (w.alloc (.cells #[.int .i64 q] 3)) (.slice (some ⟨m, 0, none⟩) 1 1) 1 1 [.int .i64 q] := by
  subst h
  exact RowAt.of_block (cs := #[.int .i64 q]) (heap_alloc_new w _) rfl (by decide)
theorem ints_one (q : Int) : ∀ u ∈ [Value.int .i64 q], u.oneCell' = true := fun u hu => by rw [List.mem_singleton.1 hu]; rfl
/-- The ends that are known so far. -/
def tjS (lz : Bool) (Q z E j : Nat) (q : Nat) : Stp := if q < Q + j * (z + 1) then forkS lz (q + 1) E else .fork 0 0
theorem opts_start {f : Nat → List Stp} {z : Nat} (hf : ∀ p, (f p).length = z) (lz : Bool) (Q E d : Nat) : rawS f d Q = optsS f (tjS lz Q z E 0) d Q := by
  unfold rawS
  refine opts_congr hf d Q (fun i hi => ?_)
  unfold tjS
  rw [if_neg (by omega)]
theorem opts_next {f : Nat → List Stp} {z : Nat} (hf : ∀ p, (f p).length = z) (lz : Bool) (Q E d j : Nat) (hj : j < d) : (optsS f (tjS lz Q z E j) d Q).set (j * (z + 1)) (forkS lz (Q + j * (z + 1) + 1) E) = optsS f (tjS lz Q z E (j + 1)) d Q := by
  rw [opts_set hf _ _ _ _ _ hj]
  refine opts_congr hf d Q (fun i hi => ?_)
  unfold tjS
  have hs : (j + 1) * (z + 1) = j * (z + 1) + (z + 1) := Nat.succ_mul _ _
  rcases Nat.lt_trichotomy i j with h | h | h
  · have h1 := Nat.mul_le_mul_right (z + 1) (show i + 1 ≤ j from h)
    rw [Nat.succ_mul] at h1
    rw [if_neg (by omega), if_pos (by omega), if_pos (by omega)]
  · subst h
    rw [if_pos rfl, if_pos (by omega)]
  · have h1 := Nat.mul_le_mul_right (z + 1) (show j + 1 ≤ i from h)
    rw [Nat.succ_mul] at h1
    rw [if_neg (by omega), if_neg (by omega), if_neg (by omega)]
theorem opts_end {f : Nat → List Stp} {z : Nat} (hf : ∀ p, (f p).length = z) (lz : Bool) (Q E d : Nat) : optsS f (tjS lz Q z E d) d Q = optsS f (fun p => forkS lz (p + 1) E) d Q := by
  refine opts_congr hf d Q (fun i hi => ?_)
  unfold tjS
  have h1 := Nat.mul_le_mul_right (z + 1) (show i + 1 ≤ d from hi)
  rw [Nat.succ_mul] at h1
  rw [if_pos (by omega)]
/-- A fork of the list, in its place. -/
theorem fork_at {F : Nat → Prop} {W : World} {f : Nat → List Stp} {z : Nat} (hf : ∀ p, (f p).length = z) {lz : Bool} {Q E d j : Nat} (hj : j < d) {mo : List Ms} (hm : mo.map Ms.st = optsS f (tjS lz Q z E j) d Q) (hok : ∀ m ∈ mo, MsOk W F m) : ∃ l r, mo = l ++ bare (.fork 0 0) :: r ∧ l.length = j * (z + 1) ∧ (l ++ bare (forkS lz (Q + j * (z + 1) + 1) E) :: r).map Ms.st = optsS f (tjS lz Q z E (j + 1)) d Q := by
  have hg := opts_get (t := tjS lz Q z E j) hf d Q j hj
  rw [← hm, List.getElem?_map] at hg
  obtain ⟨m, hmm⟩ : ∃ m, mo[j * (z + 1)]? = some m := by
    cases h : mo[j * (z + 1)]? with
    | none => rw [h] at hg; cases hg
    | some m => exact ⟨m, rfl⟩
  obtain ⟨hlt, hme⟩ := List.getElem?_eq_some_iff.1 hmm
  rw [hmm] at hg
  have hst : m.st = .fork 0 0 := by
    injection hg with hg
    rw [hg]
    unfold tjS
    rw [if_neg (by omega)]
  have hbare : m = bare (.fork 0 0) := by
    have h9 := hok m (by rw [← hme]; exact List.getElem_mem hlt)
    unfold MsOk at h9
    rw [hst] at h9
    obtain ⟨a1, a2, a3⟩ := h9
    cases m
    dsimp only at hst a1 a2 a3
    rw [hst, a1, a2, a3]
    rfl
  have hsp : mo = mo.take (j * (z + 1)) ++ bare (.fork 0 0) :: mo.drop (j * (z + 1) + 1) := by
    rw [← hbare, ← hme, ← List.drop_eq_getElem_cons hlt, List.take_append_drop]
  have hll : (mo.take (j * (z + 1))).length = j * (z + 1) := by rw [List.length_take]; omega
  refine ⟨mo.take (j * (z + 1)), mo.drop (j * (z + 1) + 1), hsp, hll, ?_⟩
  rw [← opts_next hf lz Q E d j hj, ← hm]
  conv => rhs; rw [hsp]
  rw [List.map_append, List.map_append, List.map_cons, List.map_cons, List.set_append_right _ _ (by rw [List.length_map]; omega)]
  congr 1
  rw [List.length_map, hll, Nat.sub_self]
  rfl
theorem FkS.get {w W : World} {s : Value} {Q z i fc k : Nat} {fa : Option Addr} (h : FkS w W s Q z fa i fc) (hk : k < i) : ∃ fb, fa = some ⟨fb, 0, none⟩ ∧ W.cell? ⟨fb, k, none⟩ = some (.int .i64 ((Q + k * (z + 1) : Nat) : Int)) := by
  rcases h.row.2 with ⟨h1, h2⟩ | ⟨g, cap, cur, e1, h2, h3, h4⟩
  · omega
  · injection e1 with e1
    subst e1
    have hc := World.ownsRow.cells h.row (g := g) rfl k _ (fkC_get hk)
    rw [Addr.add_lit, Nat.zero_add] at hc
    exact ⟨g, rfl, hc⟩
end Go.Proofs.YtmbkcmfcdjccoaaDoor
