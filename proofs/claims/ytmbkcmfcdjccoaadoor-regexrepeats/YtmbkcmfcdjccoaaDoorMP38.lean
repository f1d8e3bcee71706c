/- Texts that belong together. -/
import Derived.Test.YtmbkcmfcdjccoaaDoorMP37
/- The steps of an expression: all of it; what compiling comes to. -/
namespace Go.Proofs.YtmbkcmfcdjccoaaDoor
open Go.RowKit Go.Maps

theorem write_times (y : Nd) (lo : Nat) (hi : Int) (lz : Bool) (ih : WrC y) : WrC (.times y lo hi lz) := by
  intro hw hgr F X p w va c ms h hx hl
  by_cases h0 : sizeN (.times y lo hi lz) = 0
  · exact write_none hw h0 h hx
  · have HE : Hid (Calls Tryd.prog 38 #[.pointer (some ⟨X, 0, none⟩), .pointer (some ⟨p, 0, none⟩)] w fun e w' => e = .returned (.tuple #[]) ∧ WrD F X w (sV va ms c) ms (emitN (.times y lo hi lz) ms.length) w') := by
      by_cases hne : hi = -1
      · subst hne
        exact writeTimes_open y lo lz ih hw hgr h0 F X p w va c ms h hx hl
      · exact writeTimes_closed y lo hi lz hne ih hw hgr h0 F X p w va c ms h hx hl
    have k7 := cell7 hx
    have hz : (sizeN (.times y lo hi lz) == 0) = false := by simpa using h0
    unfold NdAt at hx
    obtain ⟨hp, v, x1, hn, hps, hx1⟩ := hx
    have k0 : w.cell? ⟨p, 0, none⟩ = some (.int .i64 7) := by rw [cell_of_heap hn]; rfl
    clear h hn hps hx1 hw hgr hl ih h0
    generalize sizeN (.times y lo hi lz) = Z at *
    go_enter Tryd.func26, Tryd.ntmps26
    go_wp2_with (go_at_call 38; refine HE.out.mono ?_; clear HE; rintro e w1 ⟨rfl, hr⟩; have HR : Hid (WrD F X w (sV va ms c) ms (emitN (.times y lo hi lz) ms.length) w1) := hr; clear hr)
    go_end0
    exact ⟨rfl, HR.out⟩
mutual
/-- Every part is written as its steps. -/
theorem write_nd : ∀ x, WrC x
  | .take l neg => write_take l neg
  | .start => write_start
  | .stop => write_stop
  | .row l => write_row l (write_nds l)
  | .either a b => write_either a b (write_nd a) (write_nd b)
  | .group n a => write_group n a (write_nd a)
  | .plus a lz => write_plus a lz (write_nd a)
  | .times a lo hi lz => write_times a lo hi lz (write_nd a)
theorem write_nds : ∀ (l : List Nd), ∀ y ∈ l, WrC y
  | [], y, h => by cases h
  | a :: t, y, h => (List.mem_cons.1 h).elim (fun e => e ▸ write_nd a) (fun h => write_nds t y h)
end
/-- What an expression comes to: too large, refused at a place, or its parts and how many groups. -/
inductive CmR where
  | large : CmR
  | no (p : Nat) : CmR
  | ok (x : Nd) (g : Nat) : CmR
def readS (s : ByteArray) : Pt Nd := eitherR s (5 * s.size + 2) 0 0
def compR (s : ByteArray) : CmR :=
  if 256 < s.size then .large
  else match readS s with
    | .no p => .no p
    | .yes x p g => if p < s.size then .no p else if 2000 < sizeN x + 1 then .large else .ok x g
/-- The program of an expression. -/
def progR (x : Nd) : List Stp := emitN x 0 ++ [.yes]
/-- A program in memory, within a footprint. -/
structure PgAt (w : World) (F : Nat → Prop) (p : Nat) (ms : List Ms) (g : Nat) : Prop where
  blk : ∃ va c, w.heap[p]? = some (.cells #[.slice va ms.length c, .int .i64 g] 74) ∧ RowF w F 72 5 (.slice va ms.length c) ms.length (msC ms)
  foot : F p
  cls : ∀ m ∈ ms, MsOk w F m
theorem MsOk.wide {w : World} {F G : Nat → Prop} {m : Ms} (hFG : ∀ j, F j → G j) (h : MsOk w F m) : MsOk w G m := by
  unfold MsOk at h ⊢
  cases hs : m.st with
  | take l neg =>
    rw [hs] at h
    obtain ⟨A, h1, h2, h3⟩ := h
    exact ⟨A, h1, RowF.to hFG (fun _ _ => rfl) h2, h3⟩
  | start => rw [hs] at h; exact h
  | stop => rw [hs] at h; exact h
  | note k => rw [hs] at h; exact h
  | fork a b => rw [hs] at h; exact h
  | jump a => rw [hs] at h; exact h
  | yes => rw [hs] at h; exact h
/-- What compiling tells. -/
def CmP (w : World) (R : CmR) (e : Ending) (w' : World) : Prop := Below w.heap.size w w' ∧ match R with
  | .large => e = .returned (.tuple #[.pointer none, .int .i64 0, .int .i64 9])
  | .no p => e = .returned (.tuple #[.pointer none, .int .i64 p, .int .i64 8])
  | .ok x g => ∃ p ms, e = .returned (.tuple #[.pointer (some ⟨p, 0, none⟩), .int .i64 0, .int .i64 0]) ∧ ms.map Ms.st = progR x ∧ PgAt w' (Fresh w.heap.size w'.heap.size) p ms g
/-- The writer begins. -/
theorem WrA.begin {F : Nat → Prop} {W W1 : World} {n : Nat} (hF : ∀ b, F b → b < W.heap.size) (hr : W1.ownsRow W.heap.size 72 5 (.slice (some ⟨W.heap.size, 0, none⟩) 0 n) 0 []) (_hg : W.grownBy W1 none) : WrA F W1.heap.size (W1.alloc (.cells #[.slice (some ⟨W.heap.size, 0, none⟩) 0 n] 68)) (some ⟨W.heap.size, 0, none⟩) n [] := by
  have hlt := (hr.lt W.heap.size rfl).2
  refine ⟨heap_alloc_new _ _, ?_, fun e => ?_, fun b hb => ⟨by simp; have := hF b hb; omega, by have := hF b hb; omega, fun e => ?_⟩, fun m hm => by cases hm⟩
  · exact row_mono (row_below hr ((Below.refl _ _).alloc (Nat.le_refl _) _)) (Nat.zero_le _)
  · have e2 : some W.heap.size = some W1.heap.size := e
    injection e2 with e2
    omega
  · have e2 : some W.heap.size = some b := e
    injection e2 with e2
    have := hF b hb
    omega
end Go.Proofs.YtmbkcmfcdjccoaaDoor

/- Compile: what an expression comes to. -/
namespace Go.Proofs.YtmbkcmfcdjccoaaDoor
open Go.RowKit Go.Maps

theorem infoStep : (Tryd.prog.info? 72).map (fun i => (i.zero, i.size, i.bytes)) = some (some (.agg #[.int .i64 0, .slice none 0 0, .int .i64 0, .int .i64 0, .int .i64 0]), 5, 56) := by kernel_rfl
theorem make_steps (W : World) (Z : Nat) (hZ : Z ≤ 3000) : ∃ W1, (Instr.makeSlice 66 (.int .i64 0) (.int .i64 ((Z : Int) + 1))).run Tryd.prog W = .ok (.slice (some ⟨W.heap.size, 0, none⟩) 0 (Z + 1)) W1 ∧ W1.ownsRow W.heap.size 72 5 (.slice (some ⟨W.heap.size, 0, none⟩) 0 (Z + 1)) 0 [] ∧ W.grownBy W1 none := by
  obtain ⟨i0, hi0, hz0, hz1, hz2⟩ := info_parts infoStep
  have h9 := run_make_own (P := Tryd.prog) (w := W) W.heap.size 66 72 i0 _ 5 Tryd.underlying66 hi0 hz0 hz1 .i64 .i64 (Z + 1) (by rw [hz2]; omega) (by unfold maxLen; omega) (Nat.le_refl _)
  simpa using h9
/-- An expression is read from its beginning, by a reader of its own. -/
theorem read_is {w : World} {B : Nat} {s : ByteArray} (hE : Env8 w B) (hB : B ≤ w.heap.size) (hs : s.size ≤ 256) : Hid (∀ W, W = w.alloc (.cells #[.string s, .int .i64 0, .int .i64 0] 58) → Calls Tryd.prog 25 #[.pointer (some ⟨w.heap.size, 0, none⟩)] W fun e w' => ∃ x, e = .returned (.tuple #[.pointer x, .bool (okT (readS s))]) ∧ PtQ W w.heap.size s (readS s) x w') := fun W hW => by
  subst hW
  exact either_any w.heap.size B s _ (heap_alloc_new _ _) (hE.below (((Below.refl _ w).alloc (Nat.le_refl _) _).mono hB)) hB (by omega)
theorem RdS.belowW {w W1 W : World} {s : ByteArray} {g i : Nat} {o : Obj} (hW : W1 = w.alloc o) (H : RdS W1 w.heap.size s g W i) : Below w.heap.size w W := by
  subst hW
  exact (((Below.refl _ w).alloc (Nat.le_refl _) o)).trans ((H.kept.toBelow (B := w.heap.size) (by simp) (fun i hi => by omega)))

/-- The writer begins, behind the reader. -/
structure CpS (w w2 W3 : World) (s : ByteArray) (g i Z : Nat) (x : Nd) (b : Nat) : Prop where
  rd : RdAt w2 w.heap.size s i g
  below : Below w.heap.size w w2
  nd : NdAt w2 (Fresh (w.heap.size + 1) w2.heap.size) x b
  own : W3.ownsRow w2.heap.size 72 5 (.slice (some ⟨w2.heap.size, 0, none⟩) 0 (Z + 1)) 0 []
  grow : w2.grownBy W3 none
section
variable {w w2 W3 : World} {s : ByteArray} {g i Z : Nat} {x : Nd} {b : Nat}
theorem CpS.blocks (h : CpS w w2 W3 s g i Z x b) (o : Obj) : ∀ q, q < w2.heap.size → (W3.alloc o).heap[q]? = w2.heap[q]? := fun q hq => (Below.heap_alloc _ _ _ (by have := h.grow.size; omega)).trans (h.grow.block q hq (fun e => by cases e))
theorem CpS.write (h : CpS w w2 W3 s g i Z x b) (hw : WfN x) (hg : GrN 10000 x) (hZ : sizeN x = Z) (hZ2 : Z ≤ 1999) : Calls Tryd.prog 26 #[.pointer (some ⟨W3.heap.size, 0, none⟩), .pointer (some ⟨b, 0, none⟩)] (W3.alloc (.cells #[.slice (some ⟨w2.heap.size, 0, none⟩) 0 (Z + 1)] 68)) fun e w' => e = .returned (.tuple #[]) ∧ ∃ va c ms, WrS (Fresh (w.heap.size + 1) w2.heap.size) W3.heap.size (W3.alloc (.cells #[.slice (some ⟨w2.heap.size, 0, none⟩) 0 (Z + 1)] 68)) (sV (some ⟨w2.heap.size, 0, none⟩) [] (Z + 1)) w' va c ms ∧ ms.map Ms.st = emitN x 0 := by
  have h9 := (write_nd x) hw hg (Fresh (w.heap.size + 1) w2.heap.size) W3.heap.size b _ _ _ [] (WrA.begin (F := Fresh (w.heap.size + 1) w2.heap.size) (fun q hq => hq.2) h.own h.grow) (h.nd.again (fun q hq => h.blocks _ q hq.2)) (by rw [hZ]; simp; omega)
  refine h9.mono ?_
  rintro e w' ⟨he, va, c, m2, h1, h2⟩
  exact ⟨he, va, c, m2, h1, h2⟩
/-- What of the reader is still there, and what was there ahead of it. -/
theorem CpS.still (h : CpS w w2 W3 s g i Z x b) {F : Nat → Prop} {W : World} {va : Option Addr} {c : Nat} {ms : List Ms} {o : Obj} (H : WrS F W3.heap.size (W3.alloc o) (sV (some ⟨w2.heap.size, 0, none⟩) [] (Z + 1)) W va c ms) : RdAt W w.heap.size s i g ∧ Below w.heap.size w W := by
  have h2 := h.grow.size
  have h3 := h.rd.lt
  have hk : ∀ q, q < w2.heap.size → W.heap[q]? = w2.heap[q]? := fun q hq => (H.k.kept.block q (by simp; omega) (fun e => by
    rcases e with e | e
    · omega
    · have e2 : some w2.heap.size = some q := e
      injection e2 with e2
      omega)).trans (h.blocks o q hq)
  refine ⟨(hk _ h3).trans h.rd, ⟨?_, ?_, ?_, ?_, fun q hq => (hk q (Nat.lt_of_lt_of_le hq h.below.size)).trans (h.below.block q hq)⟩⟩
  · exact H.k.kept.os.trans (h.grow.os.trans h.below.os)
  · exact H.k.kept.tape.trans (h.grow.tape.trans h.below.tape)
  · exact H.k.kept.output.trans (h.grow.output.trans h.below.output)
  · have h5 := H.k.kept.size
    have h6 := h.below.size
    simp at h5
    omega
/-- The program is told. -/
theorem CpS.prog (h : CpS w w2 W3 s g i Z x b) {W : World} {va : Option Addr} {c : Nat} {ms : List Ms} {o : Obj} (H : WrS (Fresh (w.heap.size + 1) w2.heap.size) W3.heap.size (W3.alloc o) (sV (some ⟨w2.heap.size, 0, none⟩) [] (Z + 1)) W va c ms) : Below w.heap.size w (W.alloc (.cells #[.slice va ms.length c, .int .i64 g] 74)) ∧ PgAt (W.alloc (.cells #[.slice va ms.length c, .int .i64 g] 74)) (Fresh w.heap.size (W.alloc (.cells #[.slice va ms.length c, .int .i64 g] 74)).heap.size) W.heap.size ms g := by
  obtain ⟨h1, h2⟩ := h.still H
  have h3 := h.below.size
  have h4 := h.grow.size
  have h5 := H.k.kept.size
  have hs : (W.alloc (.cells #[.slice va ms.length c, .int .i64 g] 74)).heap.size = W.heap.size + 1 := by simp
  have hb : ∀ q, q < W.heap.size → (W.alloc (.cells #[.slice va ms.length c, .int .i64 g] 74)).heap[q]? = W.heap[q]? := fun q hq => Below.heap_alloc _ _ _ (by omega)
  simp at h5
  refine ⟨h2.alloc h2.size _, ⟨⟨va, c, heap_alloc_new _ _, ?_, fun q hq => ?_⟩, ⟨h2.size, by omega⟩, fun m hm => ?_⟩⟩
  · exact ownsRow_heap H.a.row (fun q hq => hb q (H.a.row.lt q hq).2)
  · refine ⟨?_, by have := (H.a.row.lt q hq).2; omega⟩
    rcases H.k.own q hq with e | e
    · have e2 : some w2.heap.size = some q := e
      injection e2 with e2
      omega
    · simp at e
      omega
  · exact ((H.a.cls m hm).to (fun q hq => hb q (by have := hq.2; omega))).wide (fun q hq => ⟨by have := hq.1; omega, by have := hq.2; omega⟩)
end
theorem yes_is {F : Nat → Prop} {X : Nat} {w : World} {v0 : Value} : Hid (∀ W va c ms, WrS F X w v0 W va c ms → ms.length ≤ 100000 → Calls Tryd.prog 27 #[.pointer (some ⟨X, 0, none⟩), .agg #[.int .i64 6, .slice none 0 0, .int .i64 0, .int .i64 0, .int .i64 0]] W fun e w' => e = .returned (.int .i64 ms.length) ∧ ∃ va' c' M, WrS F X w v0 w' va' c' M ∧ M = ms ++ [bare .yes]) := fun W va c ms H hl => ((bare_is (t := .yes) rfl (fun _ _ e => by cases e)).out W va c ms H hl).mono (fun e w' h => by
  obtain ⟨he, va', c', h1⟩ := h
  exact ⟨he, va', c', _, h1, rfl⟩)

set_option maxRecDepth 100000 in
set_option maxHeartbeats 800000 in
theorem compile_ok (B : Nat) (s : ByteArray) (w : World) (hE : Env8 w B) (hB : B ≤ w.heap.size) (hs : s.size ≤ 256) (x : Nd) (p g : Nat) (hr : readS s = .yes x p g) (hps : ¬ p < s.size) (hz : sizeN x + 1 ≤ 2000) :
    Calls Tryd.prog 10 #[.string s] w fun e w' => CmP w (.ok x g) e w' := by
  have hrd := read_is hE hB hs
  have hok := (allOk s (5 * s.size + 2)).either 0 0 (Nat.zero_le _) (Nat.zero_le _)
  have hgr := (allG s (5 * s.size + 2)).either 0 0
  have hr2 : eitherR s (5 * s.size + 2) 0 0 = .yes x p g := hr
  rw [hr2] at hok hgr
  rw [hr] at hrd
  obtain ⟨o1, o2, o3, o4⟩ := hok
  obtain ⟨-, hgx⟩ := hgr
  have hpe : p = s.size := by omega
  subst hpe
  have h0 := wf_size x o4
  obtain ⟨Z, hZ⟩ : ∃ Z : Nat, sizeN x = Z := ⟨(sizeN x).toNat, by omega⟩
  have hZ2 : Z ≤ 1999 := by omega
  have HRD : Hid (∀ W, W = w.alloc (.cells #[.string s, .int .i64 0, .int .i64 0] 58) → Calls Tryd.prog 25 #[.pointer (some ⟨w.heap.size, 0, none⟩)] W fun e w' => ∃ a, e = .returned (.tuple #[.pointer a, .bool true]) ∧ ∃ b, a = some ⟨b, 0, none⟩ ∧ RdS W w.heap.size s g w' s.size ∧ NdAt w' (Fresh W.heap.size w'.heap.size) x b) := hrd.out
  have HMK : Hid (∀ W, ∃ W1, (Instr.makeSlice 66 (.int .i64 0) (.int .i64 ((Z : Int) + 1))).run Tryd.prog W = .ok (.slice (some ⟨W.heap.size, 0, none⟩) 0 (Z + 1)) W1 ∧ W1.ownsRow W.heap.size 72 5 (.slice (some ⟨W.heap.size, 0, none⟩) 0 (Z + 1)) 0 [] ∧ W.grownBy W1 none) := fun W => make_steps W Z (by omega)
  have hg9 : g ≤ 10000 := by omega
  clear hrd hr hr2 hE o1 o2 o3
  have hsz : (s.size : Int) ≤ 256 := by omega
  go_enter Tryd.func10, Tryd.ntmps10
  have HY := fun F X w v0 => @yes_is F X w v0
  have HY : Hid (∀ F X w v0, Hid _) := HY
  have HCW : Hid (∀ (w2 W3 : World) (b : Nat), CpS w w2 W3 s g s.size Z x b → Calls Tryd.prog 26 #[.pointer (some ⟨W3.heap.size, 0, none⟩), .pointer (some ⟨b, 0, none⟩)] (W3.alloc (.cells #[.slice (some ⟨w2.heap.size, 0, none⟩) 0 (Z + 1)] 68)) fun e w' => e = .returned (.tuple #[]) ∧ ∃ va c ms, WrS (Fresh (w.heap.size + 1) w2.heap.size) W3.heap.size (W3.alloc (.cells #[.slice (some ⟨w2.heap.size, 0, none⟩) 0 (Z + 1)] 68)) (sV (some ⟨w2.heap.size, 0, none⟩) [] (Z + 1)) w' va c ms ∧ ms.map Ms.st = emitN x 0 ∧ ms.length ≤ 2000) := fun w2 W3 b h => (h.write o4 (GrN.mono hg9 x hgx) hZ hZ2).mono (by
    rintro e w' ⟨he, va, c, ms, h1, h2⟩
    refine ⟨he, va, c, ms, h1, h2, ?_⟩
    have h3 := emit_len x o4 (by omega) 0
    rw [← h2, List.length_map] at h3
    omega)
  have hpd : decide ((s.size : Int) < s.size) = false := decide_eq_false (by omega)
  go_wp2_with (first
    | (go_at_call 25; refine (HRD.out _ rfl).mono ?_; clear HRD; rintro e w2 ⟨a, rfl, b, rfl, hl, hnd⟩; obtain ⟨W3, hmk, hown, hgrow⟩ := HMK.out w2; have c1 := hl.rd.c1; have z7 : w2.cell? ⟨b, 7, none⟩ = some (.int .i64 Z) := (by rw [← hZ]; exact hnd.size); have HX : Hid (CpS w w2 W3 s g s.size Z x b) := ⟨hl.rd, hl.belowW rfl, (by simpa using hnd), hown, hgrow⟩; clear hl hnd hown hgrow HMK)
    | (go_at_call 26; refine (HCW.out _ _ _ HX.out).mono ?_; clear HCW c1 z7 hmk; rintro e w5 ⟨rfl, va5, c5, ms, h1, h2, h3⟩; have HS : Hid (WrS (Fresh (w.heap.size + 1) w2.heap.size) W3.heap.size (W3.alloc (.cells #[.slice (some ⟨w2.heap.size, 0, none⟩) 0 (Z + 1)] 68)) (sV (some ⟨w2.heap.size, 0, none⟩) [] (Z + 1)) w5 va5 c5 ms ∧ ms.map Ms.st = emitN x 0) := ⟨h1, h2⟩; clear h1 h2)
    | (go_at_call 27; refine ((HY.out _ _ _ _).out _ _ _ _ HS.out.1 (by omega)).mono ?_; clear HY; rintro e w6 ⟨rfl, va6, c6, M, h1, h2⟩; have x0 := h1.a.c0; have c2 := (HX.out.still h1).1.c2; have HS6 : Hid (WrS (Fresh (w.heap.size + 1) w2.heap.size) W3.heap.size (W3.alloc (.cells #[.slice (some ⟨w2.heap.size, 0, none⟩) 0 (Z + 1)] 68)) (sV (some ⟨w2.heap.size, 0, none⟩) [] (Z + 1)) w6 va6 c6 M ∧ M = ms ++ [bare .yes] ∧ ms.map Ms.st = emitN x 0) := ⟨h1, h2, HS.out.2⟩; clear h1 h2 HS))
  go_ret3
  obtain ⟨h1, h2, h3⟩ := HS6.out
  refine ⟨(HX.out.prog h1).1, _, M, rfl, ?_, (HX.out.prog h1).2⟩
  rw [h2, List.map_append, h3]
  rfl
end Go.Proofs.YtmbkcmfcdjccoaaDoor
