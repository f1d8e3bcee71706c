/- Texts that belong together. -/
import Derived.Test.YtmbkcmfcdjccoaaDoorMP42
import Derived.Deep.CutRange
import Derived.Deep.CutBlock
import Derived.Deep.LoopGhost
import Derived.WalkMore
/- Running a program: its moves. -/
namespace Go.Proofs.YtmbkcmfcdjccoaaDoor
open Go.RowKit Go.Maps

theorem meC_set (met : List Nat) (i v : Nat) : (meC met).set i (.int .i64 (v : Int)) = meC (met.set i v) := by
  unfold meC
  rw [List.map_set]
theorem own_len (la : Option Addr) (n m c d : Nat) : (Value.slice la n c).ownBlock = (Value.slice la m d).ownBlock := by cases la <;> rfl
theorem thC_take : ∀ (n : Nat) (l : List Tm), (thC l).take (n * 2) = thC (l.take n)
  | 0, l => by simp [thC]
  | n + 1, [] => by simp [thC]
  | n + 1, a :: l => by
    have ih := thC_take n l
    rw [show (n + 1) * 2 = n * 2 + 2 by omega]
    show (Value.int .i64 a.st :: Value.pointer a.p :: thC l).take (n * 2 + 2) = Value.int .i64 a.st :: Value.pointer a.p :: thC (l.take n)
    simp [ih]
section
variable {C C' : Nat → Nat} {W W' : World} {K : FoK} {D : FoD}
/-- A step is met. -/
theorem FoB.putMet (h : FoB C W K D) (i v : Nat) {x : Value} (hx : x = .int .i64 (v : Int)) : FoB C (W.setCell ⟨K.gm, i, none⟩ x) K { D with met := D.met.set i v } ∧ Mv S5 C W C (W.setCell ⟨K.gm, i, none⟩ x) ∧ Mv (fun c => c = 2) C W C (W.setCell ⟨K.gm, i, none⟩ x) := by
  subst hx
  have m : Mv (fun c => c = 2) C W C (W.setCell ⟨K.gm, i, none⟩ (.int .i64 (v : Int))) := (Mv.refl _ C W).setCell (fun _ => h.cM) _
  obtain ⟨s1, s2, s3⟩ := m.stp (by decide) h
  have r1 := m.run h (by decide)
  have r3 := m.lat h (by decide)
  have r4 := m.wai h (by decide)
  refine ⟨⟨r1, s1, s2, ?_, r3, r4, fun t ht => m.nts (by decide) (h.ltn t ht), fun t ht => m.nts (by decide) (h.wtn t ht), m.nts (by decide) h.fdn, h.cR, h.cM, h.cL, h.cW, s3⟩, m.weak (fun c hc => by subst hc; exact ⟨by decide, by decide⟩), m⟩
  have h9 := ownsRow_set h.met (g := K.gm) rfl (i := i) (.int .i64 (v : Int))
  rw [meC_set] at h9
  exact h9
/-- What is said second: the last is taken away. -/
theorem FoB.popLat (h : FoB C W K D) {x : Value} (hx : x = .slice D.la (D.lat.length - 1) D.lc) : FoB C (W.setCell ⟨K.R, 4, none⟩ x) K { D with lat := D.lat.dropLast } ∧ Mv (fun c => c = 1) C W C (W.setCell ⟨K.R, 4, none⟩ x) := by
  subst hx
  have m : Mv (fun c => c = 1) C W C (W.setCell ⟨K.R, 4, none⟩ (.slice D.la (D.lat.length - 1) D.lc)) := (Mv.refl _ C W).setCell (fun _ => h.cR) _
  obtain ⟨s1, s2, s3⟩ := m.stp (by decide) h
  have hl : D.lat.dropLast.length = D.lat.length - 1 := by simp
  have hrow := row_cut (m.lat h (by decide)) (m := D.lat.length - 1) (by omega)
  have hth : (thC D.lat).take ((D.lat.length - 1) * 2) = thC D.lat.dropLast := by
    rw [List.dropLast_eq_take, thC_take]
  rw [hth] at hrow
  have r2 := m.met h (by decide)
  have r4 := m.wai h (by decide)
  refine ⟨⟨?_, s1, s2, r2, by rw [hl]; exact hrow, r4, fun t ht => m.nts (by decide) (h.ltn t (by rw [List.dropLast_eq_take] at ht; exact List.mem_of_mem_take ht)), fun t ht => m.nts (by decide) (h.wtn t ht), m.nts (by decide) h.fdn, h.cR, h.cM, fun b hb => h.cL b ((own_len _ _ _ _ _).trans hb), h.cW, s3⟩, m⟩
  rw [heap_setCell_same h.run, hl]
  rfl
/-- What is said second: one more (behind all that was said, or behind none). -/
theorem FoB.pushLat (h : FoB C W K D) {lat0 : List Tm} (hsub : ∀ t ∈ lat0, t ∈ D.lat) {t : Tm} (ht : NtAt W (outC C W) t.l t.p) {o : Obj} {W5 : World} {a5 : Option Addr} {c5 : Nat} (hr : W5.ownsRow 0 91 2 (.slice a5 (lat0.length + 1) c5) (lat0.length + 1) (thC lat0 ++ tmC t)) (hg : (W.alloc o).grownBy W5 (Value.slice D.la lat0.length D.lc).ownBlock) (ho : (Value.slice a5 (lat0.length + 1) c5).ownBlock = (Value.slice D.la lat0.length D.lc).ownBlock ∨ (Value.slice a5 (lat0.length + 1) c5).ownBlock = some (W.alloc o).heap.size) {x : Value} (hx : x = .slice a5 (lat0.length + 1) c5) :
    FoB (paintC C W.heap.size 3) (W5.setCell ⟨K.R, 4, none⟩ x) K { D with la := a5, lc := c5, lat := lat0 ++ [t] } ∧ Mv (fun c => c = 1 ∨ c = 3) C W (paintC C W.heap.size 3) (W5.setCell ⟨K.R, 4, none⟩ x) := by
  subst hx
  have hs1 : (W.alloc o).heap.size = W.heap.size + 1 := by simp
  have hgs := hg.size
  have hlb : ∀ b, (Value.slice D.la lat0.length D.lc).ownBlock = some b → b < W.heap.size ∧ C b = 3 := fun b hb => ⟨(h.lat.lt b ((own_len _ _ _ _ _).trans hb)).2, h.cL b ((own_len _ _ _ _ _).trans hb)⟩
  have m0 : Mv (fun c => c = 1 ∨ c = 3) C W (paintC C W.heap.size 3) W5 := ⟨((Kept.refl _ W).alloc o).grown hg (fun k _ hk => Or.inr (hlb k hk).2), fun b hb => by unfold paintC; rw [if_pos hb]⟩
  have m := m0.setCell (b := K.R) (i := 4) (fun _ => Or.inl h.cR) (.slice a5 (lat0.length + 1) c5)
  obtain ⟨s1, s2, s3⟩ := m.stp (by decide) h
  have hR5 : W5.heap[K.R]? = some (.cells #[.slice K.sa K.ms.length K.sc, .int .i64 K.E, .bool K.nt, .slice (some ⟨K.gm, 0, none⟩) K.ms.length K.mc, .slice D.la D.lat.length D.lc, .bool D.fnd, .pointer D.fp] 88) := (hg.block K.R (by have := h.Rlt; omega) (fun e => by have := (hlb K.R e.symm).2; rw [h.cR] at this; omega)).trans ((Below.heap_alloc _ _ _ (by have := h.Rlt; omega)).trans h.run)
  have hl : (lat0 ++ [t]).length = lat0.length + 1 := by simp
  have hown : ∀ b, (Value.slice a5 (lat0.length + 1) c5).ownBlock = some b → b ≠ K.R ∧ paintC C W.heap.size 3 b = 3 := fun b hb => by
    rcases ho with ho | ho
    · obtain ⟨q1, q2⟩ := hlb b (ho.symm.trans hb)
      exact ⟨fun e => by rw [e, h.cR] at q2; omega, by unfold paintC; rw [if_pos q1]; exact q2⟩
    · rw [ho] at hb
      injection hb with hb
      have := h.Rlt
      exact ⟨by omega, by unfold paintC; rw [if_neg (by omega)]⟩
  have r2 := m.met h (by decide)
  have r4 := m.wai h (by decide)
  refine ⟨⟨?_, s1, s2, r2, ?_, r4, fun y hy => ?_, fun y hy => m.nts (by decide) (h.wtn y hy), m.nts (by decide) h.fdn, m.col h.Rlt h.cR, m.col h.Mlt h.cM, fun b hb => ?_, fun b hb => m.col (h.wai.lt b hb).2 (h.cW b hb), s3⟩, m⟩
  · rw [heap_setCell_same hR5, hl]
    rfl
  · rw [hl, thC_append, show thC [t] = tmC t by simp [thC]]
    exact ownsRow_heap hr (fun b hb => Below.heap_setCell _ _ _ _ (by exact (hown b hb).1))
  · rcases List.mem_append.1 hy with hy | hy
    · exact m.nts (by decide) (h.ltn y (hsub y hy))
    · rw [List.mem_singleton.1 hy]
      exact m.nts (by decide) ht
  · unfold FoD.lv at hb
    rw [hl] at hb
    exact (hown b hb).2
/-- One more waits. -/
theorem FoB.pushWait (h : FoB C W K D) {t : Tm} (ht : NtAt W (outC C W) t.l t.p) {o : Obj} {W5 : World} {a5 : Option Addr} {c5 : Nat} (hr : W5.ownsRow 0 91 2 (.slice a5 (D.wait.length + 1) c5) (D.wait.length + 1) (thC D.wait ++ tmC t)) (hg : (W.alloc o).grownBy W5 (Value.slice D.wa D.wait.length D.wc).ownBlock) (ho : (Value.slice a5 (D.wait.length + 1) c5).ownBlock = (Value.slice D.wa D.wait.length D.wc).ownBlock ∨ (Value.slice a5 (D.wait.length + 1) c5).ownBlock = some (W.alloc o).heap.size) :
    FoB (paintC C W.heap.size 4) W5 K { D with wa := a5, wc := c5, wait := D.wait ++ [t] } ∧ Mv (fun c => c = 4) C W (paintC C W.heap.size 4) W5 := by
  have hs1 : (W.alloc o).heap.size = W.heap.size + 1 := by simp
  have hgs := hg.size
  have hlb : ∀ b, (Value.slice D.wa D.wait.length D.wc).ownBlock = some b → b < W.heap.size ∧ C b = 4 := fun b hb => ⟨(h.wai.lt b (by exact hb)).2, h.cW b (by exact hb)⟩
  have m : Mv (fun c => c = 4) C W (paintC C W.heap.size 4) W5 := ⟨((Kept.refl _ W).alloc o).grown hg (fun k _ hk => (hlb k hk).2), fun b hb => by unfold paintC; rw [if_pos hb]⟩
  obtain ⟨s1, s2, s3⟩ := m.stp (by decide) h
  have hl : (D.wait ++ [t]).length = D.wait.length + 1 := by simp
  have hown : ∀ b, (Value.slice a5 (D.wait.length + 1) c5).ownBlock = some b → paintC C W.heap.size 4 b = 4 := fun b hb => by
    rcases ho with ho | ho
    · obtain ⟨q1, q2⟩ := hlb b (ho.symm.trans hb)
      unfold paintC; rw [if_pos q1]; exact q2
    · rw [ho] at hb
      injection hb with hb
      unfold paintC; rw [if_neg (by omega)]
  have r1 := m.run h (by decide)
  have r2 := m.met h (by decide)
  have r3 := m.lat h (by decide)
  refine ⟨⟨r1, s1, s2, r2, r3, ?_, fun y hy => m.nts (by decide) (h.ltn y hy), fun y hy => ?_, m.nts (by decide) h.fdn, m.col h.Rlt h.cR, m.col h.Mlt h.cM, fun b hb => m.col (h.lat.lt b hb).2 (h.cL b hb), fun b hb => ?_, s3⟩, m⟩
  · rw [hl, thC_append, show thC [t] = tmC t by simp [thC]]
    exact hr
  · rcases List.mem_append.1 hy with hy | hy
    · exact m.nts (by decide) (h.wtn y hy)
    · rw [List.mem_singleton.1 hy]
      exact m.nts (by decide) ht
  · unfold FoD.wv at hb
    rw [hl] at hb
    exact hown b hb
/-- A way is found. -/
theorem FoB.found (h : FoB C W K D) {p : Option Addr} {l : List (Nat × Nat)} (ht : NtAt W (outC C W) l p) : FoB C ((W.setCell ⟨K.R, 5, none⟩ (.bool true)).setCell ⟨K.R, 6, none⟩ (.pointer p)) K { D with fnd := true, fp := p, fl := l } ∧ Mv (fun c => c = 1) C W C ((W.setCell ⟨K.R, 5, none⟩ (.bool true)).setCell ⟨K.R, 6, none⟩ (.pointer p)) := by
  have m : Mv (fun c => c = 1) C W C ((W.setCell ⟨K.R, 5, none⟩ (.bool true)).setCell ⟨K.R, 6, none⟩ (.pointer p)) := ((Mv.refl _ C W).setCell (fun _ => h.cR) _).setCell (fun _ => h.cR) _
  obtain ⟨s1, s2, s3⟩ := m.stp (by decide) h
  have r2 := m.met h (by decide)
  have r3 := m.lat h (by decide)
  have r4 := m.wai h (by decide)
  refine ⟨⟨?_, s1, s2, r2, r3, r4, fun t ht => m.nts (by decide) (h.ltn t ht), fun t ht => m.nts (by decide) (h.wtn t ht), m.nts (by decide) ht, h.cR, h.cM, h.cL, h.cW, s3⟩, m⟩
  have e1 := heap_setCell_same h.run (i := 5) (.bool true)
  have e2 := heap_setCell_same e1 (i := 6) (.pointer p)
  rw [e2]
  rfl
/-- A thread gets a block of its own. -/
theorem TbS.new {t : Tm} (ht : NtAt W (outC C W) t.l t.p) : TbS (paintC C W.heap.size 5) (W.alloc (.cells #[.int .i64 t.st, .pointer t.p] 91)) W.heap.size t ∧ Mv (fun _ => False) C W (paintC C W.heap.size 5) (W.alloc (.cells #[.int .i64 t.st, .pointer t.p] 91)) := by
  have m : Mv (fun _ => False) C W (paintC C W.heap.size 5) (W.alloc (.cells #[.int .i64 t.st, .pointer t.p] 91)) := ⟨(Kept.refl _ W).alloc _, fun b hb => by unfold paintC; rw [if_pos hb]⟩
  exact ⟨⟨heap_alloc_new _ _, m.nts (fun h => h) ht, by unfold paintC; rw [if_neg (Nat.lt_irrefl _)]⟩, m⟩
/-- The thread goes on. -/
theorem TbS.step {T : Nat} {t : Tm} (h : TbS C W T t) (n : Nat) {x : Value} (hx : x = .int .i64 (n : Int)) : TbS C (W.setCell ⟨T, 0, none⟩ x) T { t with st := n } ∧ Mv (fun c => c = 5) C W C (W.setCell ⟨T, 0, none⟩ x) := by
  subst hx
  have m : Mv (fun c => c = 5) C W C (W.setCell ⟨T, 0, none⟩ (.int .i64 (n : Int))) := (Mv.refl _ C W).setCell (fun _ => h.c5) _
  refine ⟨⟨?_, m.nts (by decide) h.nts, h.c5⟩, m⟩
  rw [heap_setCell_same h.blk]
  rfl
/-- The thread notes a place. -/
theorem TbS.note {T : Nat} {t : Tm} (h : TbS C W T t) (k a : Nat) {x : Value} (hx : x = .pointer (some ⟨W.heap.size, 0, none⟩)) : TbS (paintC C W.heap.size 0) ((W.setCell ⟨T, 1, none⟩ x).alloc (.cells #[.int .i64 (k : Int), .int .i64 (a : Int), .pointer t.p] 80)) T { t with p := some ⟨W.heap.size, 0, none⟩, l := (k, a) :: t.l } ∧ Mv (fun c => c = 5) C W (paintC C W.heap.size 0) ((W.setCell ⟨T, 1, none⟩ x).alloc (.cells #[.int .i64 (k : Int), .int .i64 (a : Int), .pointer t.p] 80)) := by
  subst hx
  have hl := h.lt
  have hs : (W.setCell ⟨T, 1, none⟩ (.pointer (some ⟨W.heap.size, 0, none⟩))).heap.size = W.heap.size := by simp
  have m0 := (Mv.refl (fun c => c = 5) C W).setCell (b := T) (i := 1) (fun _ => h.c5) (.pointer (some ⟨W.heap.size, 0, none⟩))
  have m : Mv (fun c => c = 5) C W (paintC C W.heap.size 0) ((W.setCell ⟨T, 1, none⟩ (.pointer (some ⟨W.heap.size, 0, none⟩))).alloc (.cells #[.int .i64 (k : Int), .int .i64 (a : Int), .pointer t.p] 80)) := ⟨m0.kept.alloc _, fun b hb => by unfold paintC; rw [if_pos hb]⟩
  refine ⟨⟨?_, ⟨W.heap.size, t.p, rfl, ⟨by simp, by unfold paintC; rw [if_neg (Nat.lt_irrefl _)]⟩, ?_, m.nts (by decide) h.nts⟩, m.col hl h.c5⟩, m⟩
  · rw [Below.heap_alloc _ _ _ (by omega), heap_setCell_same h.blk]
    rfl
  · have h9 := heap_alloc_new (W.setCell ⟨T, 1, none⟩ (.pointer (some ⟨W.heap.size, 0, none⟩))) (.cells #[.int .i64 (k : Int), .int .i64 (a : Int), .pointer t.p] 80)
    rw [hs] at h9
    exact h9
end
end Go.Proofs.YtmbkcmfcdjccoaaDoor

/- Running a program: what is read. -/
namespace Go.Proofs.YtmbkcmfcdjccoaaDoor
open Go.RowKit Go.Maps

section
variable {C C' : Nat → Nat} {W W' : World} {K : FoK} {D : FoD}
/-- The runner's cells. -/
structure RuC (W : World) (K : FoK) (D : FoD) : Prop where
  r0 : W.cell? ⟨K.R, 0, none⟩ = some (.slice K.sa K.ms.length K.sc)
  r1 : W.cell? ⟨K.R, 1, none⟩ = some (.int .i64 K.E)
  r2 : W.cell? ⟨K.R, 2, none⟩ = some (.bool K.nt)
  r3 : W.cell? ⟨K.R, 3, none⟩ = some (.slice (some ⟨K.gm, 0, none⟩) K.ms.length K.mc)
  r4 : W.cell? ⟨K.R, 4, none⟩ = some (.slice D.la D.lat.length D.lc)
  r5 : W.cell? ⟨K.R, 5, none⟩ = some (.bool D.fnd)
  r6 : W.cell? ⟨K.R, 6, none⟩ = some (.pointer D.fp)
  fr : ∀ i, W.frozen? ⟨K.R, i, none⟩ = false
theorem FoB.cells (h : FoB C W K D) : RuC W K D := by
  refine ⟨?_, ?_, ?_, ?_, ?_, ?_, ?_, fun i => frozen_of_heap h.run⟩
  all_goals
    rw [cell_of_heap h.run]
    rfl
theorem FoB.mlen (h : FoB C W K D) : D.met.length = K.ms.length := by
  have := h.met.1
  simpa [meC] using this
theorem FoB.metAt (h : FoB C W K D) {i : Nat} (hi : i < K.ms.length) : (∃ n, D.met[i]? = some n ∧ W.cell? ⟨K.gm, i, none⟩ = some (.int .i64 (n : Int))) ∧ W.frozen? ⟨K.gm, i, none⟩ = false := by
  have hl := h.mlen
  have hi2 : i < D.met.length := by omega
  have hg : (meC D.met)[i]? = some (.int .i64 ((D.met[i] : Nat) : Int)) := by simp [meC, hi2]
  have hc := World.ownsRow.cells h.met (g := K.gm) rfl i _ hg
  rw [Addr.add_lit, Nat.zero_add] at hc
  exact ⟨⟨D.met[i], by simp [hi2], hc⟩, (row_cell h.met (j := i) (by omega)).2⟩
/-- A step, read. -/
structure StC (W : World) (sb i : Nat) (m : Ms) : Prop where
  s0 : W.cell? ⟨sb, i * 5, none⟩ = some (.int .i64 (stK m.st).1)
  s1 : W.cell? ⟨sb, i * 5 + 1, none⟩ = some m.cv
  s2 : W.cell? ⟨sb, i * 5 + 2, none⟩ = some (.int .i64 (stK m.st).2.1)
  s3 : W.cell? ⟨sb, i * 5 + 3, none⟩ = some (.int .i64 (stK m.st).2.2.1)
  s4 : W.cell? ⟨sb, i * 5 + 4, none⟩ = some (.int .i64 (stK m.st).2.2.2)
theorem stp_at {W : World} {F : Nat → Prop} {sa : Option Addr} {sc : Nat} {ms : List Ms} (h : RowF W F 72 5 (.slice sa ms.length sc) ms.length (msC ms)) {i : Nat} (hi : i < ms.length) : ∃ sb, sa = some ⟨sb, 0, none⟩ ∧ F sb ∧ StC W sb i ms[i] := by
  rcases h.1.2 with ⟨h1, h2⟩ | ⟨g, cap, cur, e1, h2, h3, h4⟩
  · omega
  · injection e1 with e1
    subst e1
    have hc : ∀ j, j < 5 → ∀ u, (stC ms[i])[j]? = some u → W.cell? ⟨g, i * 5 + j, none⟩ = some u := fun j hj u hu => by
      have hc := World.ownsRow.cells h.1 (g := g) rfl (i * 5 + j) u (by rw [msC_get ms i hi j hj]; exact hu)
      rw [Addr.add_lit, Nat.zero_add] at hc
      exact hc
    exact ⟨g, rfl, h.2 g rfl, hc 0 (by decide) _ rfl, hc 1 (by decide) _ rfl, hc 2 (by decide) _ rfl, hc 3 (by decide) _ rfl, hc 4 (by decide) _ rfl⟩
/-- The last of what is said second. -/
theorem FoB.lastAt (h : FoB C W K D) (hn : D.lat ≠ []) : ∃ lg t, D.la = some ⟨lg, 0, none⟩ ∧ D.lat.getLast? = some t ∧ lg < W.heap.size ∧ C lg = 3 ∧ W.cell? ⟨lg, (D.lat.length - 1) * 2, none⟩ = some (.int .i64 t.st) ∧ W.cell? ⟨lg, (D.lat.length - 1) * 2 + 1, none⟩ = some (.pointer t.p) ∧ NtAt W (outC C W) t.l t.p ∧ t ∈ D.lat := by
  have hl : 0 < D.lat.length := List.length_pos_iff.2 hn
  rcases h.lat.2 with ⟨h1, h2⟩ | ⟨g, cap, cur, e1, h2, h3, h4⟩
  · omega
  · injection e1 with e1
    obtain ⟨g1, g2⟩ := thC_get D.lat (D.lat.length - 1) (by omega)
    have hr := h.lat
    rw [e1] at hr
    have c1 := World.ownsRow.cells hr (g := g) rfl _ _ g1
    have c2 := World.ownsRow.cells hr (g := g) rfl _ _ g2
    rw [Addr.add_lit, Nat.zero_add] at c1 c2
    have hb : D.lv.ownBlock = some g := by unfold FoD.lv; rw [e1]; rfl
    exact ⟨g, D.lat[D.lat.length - 1], e1, by rw [List.getLast?_eq_getElem?]; simp, (hr.lt g rfl).2, h.cL g hb, c1, c2, h.ltn _ (List.getElem_mem _), List.getElem_mem _⟩
/-- The thread's cells. -/
theorem TbS.cells {T : Nat} {t : Tm} (h : TbS C W T t) : W.cell? ⟨T, 0, none⟩ = some (.int .i64 t.st) ∧ W.cell? ⟨T, 1, none⟩ = some (.pointer t.p) ∧ ∀ i, W.frozen? ⟨T, i, none⟩ = false := ⟨by rw [cell_of_heap h.blk]; rfl, by rw [cell_of_heap h.blk]; rfl, fun i => frozen_of_heap h.blk⟩
theorem FoB.drewN (h : FoB C W K D) (q : Nat) : FoB C (W.drewN q) K D := h.other ((Mv.refl (fun _ => False) C W).drewN q) (fun _ _ h => h)
theorem TbS.drewN {T : Nat} {t : Tm} (h : TbS C W T t) (q : Nat) : TbS C (W.drewN q) T t := h.other ((Mv.refl (fun _ => False) C W).drewN q) (fun h => h) (fun h => h)
end
theorem loneTh (w : World) (t : Tm) {b : Nat} (h : w.heap.size = b) : RowAt (w.alloc (.cells #[.int .i64 t.st, .pointer t.p] 91)) (.slice (some ⟨b, 0, none⟩) 1 1) 2 1 (tmC t) := by
  subst h
  exact RowAt.of_block (cs := #[.int .i64 t.st, .pointer t.p]) (heap_alloc_new w _) rfl (by decide)
end Go.Proofs.YtmbkcmfcdjccoaaDoor
