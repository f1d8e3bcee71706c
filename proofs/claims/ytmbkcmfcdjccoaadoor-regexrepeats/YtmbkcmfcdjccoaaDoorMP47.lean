/- Running a program: over a text; pure, and its memory. -/
import Derived.Test.YtmbkcmfcdjccoaaDoorMP46
namespace Go.Proofs.YtmbkcmfcdjccoaaDoor
open Go.RowKit Go.Maps

/-- Does the step take the character? -/
def takesS (P : List Stp) (i : Nat) (c : Nat) : Bool := match P[i]? with
  | some (.take l neg) => memS l c != neg
  | _ => false
/-- All threads of a place, over a character. -/
def sweepF (P : List Stp) (E a : Nat) (nt : Bool) (c : Nat) : List Th → FS → FS
  | [], s => s
  | t :: ts, s => if takesS P t.1 c = true then sweepF P E a nt c ts (folF P E a nt (3 * P.length + 3) none { s with lat := [(t.1 + 1, t.2)] }) else sweepF P E a nt c ts s
/-- The text, from a place on. -/
def loopF (P : List Stp) (text : ByteArray) (nt : Bool) : Nat → Nat → List Th → FS → FS
  | 0, _, _, s => s
  | n + 1, a, now, s =>
    if a < text.size ∧ now ≠ [] then
      loopF P text nt n (a + (charR text a).2) (sweepF P text.size (a + (charR text a).2) nt (charR text a).1 now { s with wait := [] }).wait (sweepF P text.size (a + (charR text a).2) nt (charR text a).1 now { s with wait := [] })
    else s
/-- What is noted on the first way that comes to yes; none: none comes. -/
def runF (P : List Stp) (text : ByteArray) (nt : Bool) : Option (List (Nat × Nat)) :=
  let s := folF P text.size 0 nt (3 * P.length + 3) none ⟨List.replicate P.length 0, [(0, [])], [], none⟩
  (loopF P text nt (text.size + 1) 0 s.wait s).fnd
theorem fol_few (P : List Stp) (E a : Nat) (nt : Bool) : ∀ (n : Nat) (c : Option Th) (s : FS), s.met.length = P.length → (folF P E a nt n c s).wait.length + unmS a (folF P E a nt n c s).met ≤ s.wait.length + unmS a s.met ∧ (folF P E a nt n c s).met.length = P.length
  | 0, c, s, hl => by
    unfold folF
    exact ⟨Nat.le_refl _, hl⟩
  | n + 1, none, s, hl => by
    rw [folF]
    cases s.lat.getLast? with
    | none => exact ⟨Nat.le_refl _, hl⟩
    | some t => exact fol_few P E a nt n _ _ hl
  | n + 1, some t, s, hl => by
    rw [folF]
    by_cases hm : s.met[t.1]? = some (a + 1)
    · rw [if_pos hm]
      exact fol_few P E a nt n _ _ hl
    · rw [if_neg hm]
      have hset : unmS a (s.met.set t.1 (a + 1)) ≤ unmS a s.met ∧ (t.1 < s.met.length → unmS a (s.met.set t.1 (a + 1)) + 1 = unmS a s.met) := by
        by_cases hl : t.1 < s.met.length
        · have h9 := unm_set hl hm
          exact ⟨by omega, fun _ => h9⟩
        · rw [List.set_eq_of_length_le (by omega)]
          exact ⟨Nat.le_refl _, fun h => absurd h hl⟩
      have hl2 : (s.met.set t.1 (a + 1)).length = P.length := by rw [List.length_set]; exact hl
      have hgo : ∀ (c : Option Th) (lat : List Th) (fnd : Option (List (Nat × Nat))), (folF P E a nt n c ⟨s.met.set t.1 (a + 1), lat, s.wait, fnd⟩).wait.length + unmS a (folF P E a nt n c ⟨s.met.set t.1 (a + 1), lat, s.wait, fnd⟩).met ≤ s.wait.length + unmS a s.met ∧ (folF P E a nt n c ⟨s.met.set t.1 (a + 1), lat, s.wait, fnd⟩).met.length = P.length := fun c lat fnd => by
        obtain ⟨h1, h2⟩ := fol_few P E a nt n c ⟨s.met.set t.1 (a + 1), lat, s.wait, fnd⟩ hl2
        exact ⟨Nat.le_trans h1 (Nat.add_le_add_left hset.1 _), h2⟩
      cases hp : P[t.1]? with
      | none => exact ⟨Nat.le_refl _, hl⟩
      | some m =>
        have hlt : t.1 < s.met.length := by
          rw [hl]
          exact (List.getElem?_eq_some_iff.1 hp).1
        cases m with
        | take l neg =>
          obtain ⟨h1, h2⟩ := fol_few P E a nt n none ⟨s.met.set t.1 (a + 1), s.lat, s.wait ++ [t], s.fnd⟩ hl2
          refine ⟨Nat.le_trans h1 ?_, h2⟩
          have h3 := hset.2 hlt
          show (s.wait ++ [t]).length + unmS a (s.met.set t.1 (a + 1)) ≤ _
          rw [List.length_append]
          simp only [List.length_singleton]
          omega
        | start =>
          dsimp only
          split
          · exact hgo _ _ _
          · exact hgo _ _ _
        | stop =>
          dsimp only
          split
          · exact hgo _ _ _
          · exact hgo _ _ _
        | note k => exact hgo _ _ _
        | fork x y => exact hgo _ _ _
        | jump x => exact hgo _ _ _
        | yes =>
          dsimp only
          split
          · exact hgo _ _ _
          · exact ⟨Nat.add_le_add_left hset.1 _, hl2⟩
theorem rise_len : ∀ {A : List Sp} {f : Int}, RiseS A f → (∀ s ∈ A, s.2 ≤ maxR) → f ≤ maxR + 1 → (A.length : Int) + f ≤ maxR + 1
  | [], f, _, _, hf => by simpa using hf
  | s :: t, f, h, hm, hf => by
    have h1 := h.1
    have h2 := h.2.1
    have h3 := hm s (by simp)
    have ih := rise_len h.2.2 (fun x hx => hm x (by simp [hx])) (by omega)
    rw [List.length_cons]
    omega
/-- A class, read of a step; a step that takes none has none. -/
theorem takes_of {W : World} {F : Nat → Prop} {ms : List Ms} {i : Nat} (hi : i < ms.length) (h : MsOk W F ms[i]) (c : Nat) (hc : (c : Int) ≤ maxR) : ∃ A : List Sp, ms[i].n = A.length ∧ RowAt W ms[i].cv 2 A.length (spC A) ∧ RiseS A 0 ∧ memS A c = takesS (ms.map Ms.st) i c ∧ A.length ≤ 2000000 := by
  have hst : (ms.map Ms.st)[i]? = some ms[i].st := by rw [List.getElem?_map, List.getElem?_eq_getElem hi]; rfl
  unfold takesS
  rw [hst]
  unfold MsOk at h
  cases hs : ms[i].st with
  | take l neg =>
    rw [hs] at h
    obtain ⟨A, h1, h2, h3⟩ := h
    have hr : RowAt W ms[i].cv 2 A.length (spC A) := RowAt.of_row h2.1
    have h4 := rise_len h3.rise (fun s hs => (h3.ok s hs).2.2) (by unfold maxR; decide)
    exact ⟨A, h1, hr, h3.rise, h3.mem c (by omega) hc, by unfold maxR at h4; omega⟩
  | _ =>
    rw [hs] at h
    obtain ⟨a1, a2, a3⟩ := h
    refine ⟨[], a2, ?_, trivial, rfl, Nat.zero_le _⟩
    unfold Ms.cv
    rw [a1, a2, a3]
    exact RowAt.of_row (World.ownsRow_nil W 0 104 2)
/-- Those who wait, and those of the place ahead, change places. -/
def swapC (C : Nat → Nat) (b : Nat) : Nat := if C b = 4 then 6 else if C b = 6 then 4 else C b
/-- A list of threads that is gone through: its row, of a part of its own. -/
structure NwS (C : Nat → Nat) (W : World) (xa : Option Addr) (xn xc : Nat) (now : List Tm) : Prop where
  row : W.ownsRow 0 91 2 (.slice xa xn xc) xn (thC now)
  nts : ∀ t ∈ now, NtAt W (outC C W) t.l t.p
  c6 : ∀ b, (Value.slice xa xn xc).ownBlock = some b → C b = 6
section
variable {C C' : Nat → Nat} {W W' : World} {K : FoK} {D : FoD} {xa : Option Addr} {xn xc : Nat} {now : List Tm}
theorem NwS.mv (h : NwS C W xa xn xc now) (m : Mv S5 C W C' W') : NwS C' W' xa xn xc now := by
  have h0 : ¬ S5 0 := fun h => by have := h.1; omega
  refine ⟨ownsRow_heap h.row (fun b hb => m.same (h.row.lt b hb).2 (by rw [h.c6 b hb]; exact fun h => by have := h.2; omega)), fun t ht => m.nts h0 (h.nts t ht), fun b hb => m.col (h.row.lt b hb).2 (h.c6 b hb)⟩
theorem NwS.len (h : NwS C W xa xn xc now) : now.length = xn := by
  have := h.row.1
  rw [thC_length] at this
  omega
theorem NwS.at (h : NwS C W xa xn xc now) {i : Nat} (hi : i < xn) (hl : i < now.length) : ∃ lg, xa = some ⟨lg, 0, none⟩ ∧ lg < W.heap.size ∧ W.cell? ⟨lg, i * 2, none⟩ = some (.int .i64 now[i].st) ∧ W.cell? ⟨lg, i * 2 + 1, none⟩ = some (.pointer now[i].p) ∧ NtAt W (outC C W) now[i].l now[i].p := by
  rcases h.row.2 with ⟨h1, h2⟩ | ⟨g, cap, cur, e1, h2, h3, h4⟩
  · omega
  · injection e1 with e1
    subst e1
    obtain ⟨g1, g2⟩ := thC_get now i hl
    have c1 := World.ownsRow.cells h.row (g := g) rfl _ _ g1
    have c2 := World.ownsRow.cells h.row (g := g) rfl _ _ g2
    rw [Addr.add_lit, Nat.zero_add] at c1 c2
    exact ⟨g, rfl, (h.row.lt g rfl).2, c1, c2, h.nts _ (List.getElem_mem hl)⟩
theorem NwS.max (h : NwS C W xa xn xc now) : xn ≤ maxLen := by
  rcases h.row.2 with ⟨_, h2⟩ | ⟨g, cap, cur, _, _, _, h3, h4, _⟩
  · omega
  · omega
theorem swap_out {b : Nat} : outC (swapC C) W b ↔ outC C W b := by
  unfold outC swapC
  constructor
  · rintro ⟨h1, h2⟩
    split at h2
    · omega
    · split at h2
      · omega
      · exact ⟨h1, h2⟩
  · rintro ⟨h1, h2⟩
    exact ⟨h1, by rw [h2]; rfl⟩
/-- The two lists change places; the one that is written again is emptied. -/
theorem FoB.swap (h : FoB C W K D) (x : NwS C W xa xn xc now) : FoB (swapC C) W K { D with wa := xa, wc := xc, wait := [] } ∧ NwS (swapC C) W D.wa D.wait.length D.wc D.wait := by
  have hto : ∀ {l : List (Nat × Nat)} {p : Option Addr}, NtAt W (outC C W) l p → NtAt W (outC (swapC C) W) l p := fun h => h.to (fun b hb => swap_out.2 hb) (fun _ _ => rfl)
  have hrow := row_cut x.row (m := 0) (Nat.zero_le _)
  refine ⟨⟨h.run, h.stp, h.cls, h.met, h.lat, by simpa [thC] using hrow, fun t ht => hto (h.ltn t ht), (fun t ht => by cases ht), hto h.fdn, by unfold swapC; rw [h.cR]; rfl, by unfold swapC; rw [h.cM]; rfl, fun b hb => by unfold swapC; rw [h.cL b hb]; rfl, fun b hb => by unfold swapC; rw [x.c6 b ((own_len _ _ _ _ _).trans hb)]; rfl, fun b hb => swap_out.2 (h.cF b hb)⟩, ⟨h.wai, fun t ht => hto (h.wtn t ht), fun b hb => by unfold swapC; rw [h.cW b hb]; rfl⟩⟩
end
end Go.Proofs.YtmbkcmfcdjccoaaDoor
