/- A file's bytes become durable; pending changes are settled. -/
import Derived.Test.YtipakfdebccchaaMW7
namespace Go.Proofs.Ytipakfdebccchaa
open Go.RowKit Go.Maps
open Go.WideMaps Go.WideElems

set_option maxRecDepth 100000 in
set_option maxHeartbeats 1000000 in
theorem sync_ok {w : World} {d : Nat} {s : St} (h : IsDisk w d s) (ho : s.ops < 1000000000) (hE : s.err = 0) (name : ByteArray) (hr : rn name = true) (hs : name.size ≤ maxLen) (f : Nat) (hat : s.N.atKey (.string name.data.toList) .nil = .lit (.int .i64 f))
    (v : Value) (bs : List UInt8) (dur : Int) (hf : FileAt w f v bs dur) (hrow : ∀ k, v.ownBlock = some k → ¬ s.own d k) :
    Calls Try.prog 35 #[.pointer (some ⟨d, 0, none⟩), .string name] w fun e w' => e = .returned (.int .i64 0) ∧
      FileAt w' f v bs bs.length ∧ IsDisk w' d s.begun ∧ Kept (fun k => s.own d k ∨ k = f) w w' := by
  obtain ⟨cc, _, hbeg⟩ := begin_is h ho
  rw [hE, torn_of_ok hE] at hbeg
  have HA : Hid (s.N.atKey (.string name.data.toList) .nil = .lit (.int .i64 f)) := hat
  clear hat
  have HB : Hid (∀ w1, Kept (fun k => k = d ∨ k = s.fb) w w1 → FileAt w1 f v bs dur) := fun w1 k => hf.kept k (fun e => e.elim (hf.ne_disk h.at_) (hf.ne_map h.mF)) (fun i hi e => hrow i hi (begun_own e))
  obtain ⟨va, vc, rfl⟩ := slice_of_row hf.row
  clear hf
  go_enter Try.func35, Try.ntmps35
  go_wp2_with (first | (go_at_call 59; refine hbeg.mono ?_; rintro e w1 ⟨rfl, hI, hk⟩; have hf1 := HB.out _ hk; obtain ⟨f0, f1, ff0, ff1⟩ := hf1.cells) | (go_at_call 41; refine (find_some _ _ _ _ _ _ _ _ _ _ _ _ _ f hs hr hI.at_ hI.mN HA.out).mono ?_; rintro e w1 ⟨rfl, rfl⟩))
  go_ret
  have k2 : Kept (fun k => k = f) w1 (w1.setCell ⟨f, 1, none⟩ (.int .i64 bs.length)) := (Kept.refl (fun k => k = f) w1).setCell (fun _ => rfl) _
  refine ⟨rfl, ⟨heap_setCell_same hf1.at_ _, k2.ownsRow hf1.row (fun k hk' e => hf1.ne_row hf1.row (by decide) (e ▸ hk'))⟩, hI.kept k2 (fun i hi e => ?_), (hk.mono (fun _ _ e => Or.inl (begun_own e))).trans k2 (fun _ _ e => Or.inr e)⟩
  subst e
  rcases hi with e | e | e | e | e
  · exact hf1.ne_disk hI.at_ e
  · exact hf1.ne_map hI.mN e
  · exact hf1.ne_map hI.mD e
  · exact hf1.ne_map hI.mF e
  · exact hf1.ne_row hI.row (by decide) e

/-- What a pending change's file reads as. -/
def pdD (p : Option Addr) : DataW Unit := match p with | none => .nil | some a => .lit (.int .i64 a.block)
structure OkCh (c : ByteArray × ByteArray × Option Addr) : Prop where
  old : c.1.size ≤ 1000000
  name : c.2.1.size ≤ 1000000
  file : fileElem (.pointer c.2.2) = some (pdD c.2.2, [])
def foldD (D : DataW Unit) (l : List (ByteArray × ByteArray × Option Addr)) : DataW Unit := l.foldl (fun D c => doD D c.1 c.2.1 (pdD c.2.2)) D

theorem chRow_at (l : List (ByteArray × ByteArray × Option Addr)) (k : Nat) (hk : k < l.length) : (chRow l)[k * 3]? = some (.string l[k].1) ∧ (chRow l)[k * 3 + 1]? = some (.string l[k].2.1) ∧ (chRow l)[k * 3 + 2]? = some (.pointer l[k].2.2) := by
  induction l generalizing k with
  | nil => simp at hk
  | cons c r ih =>
    cases k with
    | zero => simp [chRow, chCells]
    | succ k =>
      have h := ih k (by simpa using hk)
      have e : chRow (c :: r) = chCells c ++ chRow r := by simp [chRow]
      have e1 : (chCells c).length = 3 := rfl
      refine ⟨?_, ?_, ?_⟩
      · rw [e, List.getElem?_append_right (by rw [e1]; omega), e1, show (k + 1) * 3 - 3 = k * 3 by omega]; exact h.1
      · rw [e, List.getElem?_append_right (by rw [e1]; omega), e1, show (k + 1) * 3 + 1 - 3 = k * 3 + 1 by omega]; exact h.2.1
      · rw [e, List.getElem?_append_right (by rw [e1]; omega), e1, show (k + 1) * 3 + 2 - 3 = k * 3 + 2 by omega]; exact h.2.2

theorem le_max {s : ByteArray} (h : s.size ≤ 1000000) : s.size ≤ maxLen := by unfold maxLen; omega
theorem Mid.all4 {d : Nat} {cap used ops : Int} {nb db : Nat} {pv : Value} {fb : Nat} {stop : Int} {B : Nat} {old name : ByteArray} {p : Option Addr} {w : World} (h : Mid d cap used ops nb db pv fb stop B old name p w) :
    w.cell? ⟨d, 4, none⟩ = some (.map (some db)) ∧ w.cell? ⟨B, 0, none⟩ = some (.string old) ∧ w.cell? ⟨B, 1, none⟩ = some (.string name) ∧ w.cell? ⟨B, 2, none⟩ = some (.pointer p) ∧ Mid d cap used ops nb db pv fb stop B old name p w :=
  ⟨h.1.cells.2.2.2.2.1, by rw [cell_of_heap h.2]; rfl, by rw [cell_of_heap h.2]; rfl, by rw [cell_of_heap h.2]; rfl, h⟩

set_option maxRecDepth 100000 in
set_option maxHeartbeats 1000000 in
theorem settle_row (d g capp : Nat) (cap used ops : Int) (nb db fb : Nat) (stop : Int) (n0 n : Nat) (D : DataW Unit) (pend : List (ByteArray × ByteArray × Option Addr)) (w : World)
    (hd : DiskAt w d cap used ops nb db (.slice (some ⟨g, 0, none⟩) pend.length capp) fb stop) (hD : w.ownsMap Try.prog 9 fileElem db n0 D) (hP : w.ownsRow 0 101 3 (.slice (some ⟨g, 0, none⟩) pend.length capp) pend.length (chRow pend))
    (hn : n ≤ pend.length) (hb : n0 + pend.length < 1000000000) (hok : ∀ c ∈ pend, OkCh c) :
    Calls Try.prog 37 #[.pointer (some ⟨d, 0, none⟩), .int .i64 n] w fun e w' => e = .returned (.tuple #[]) ∧
      DiskAt w' d cap used ops nb db (.slice none 0 0) fb stop ∧ w'.ownsMap Try.prog 9 fileElem db (n0 + n) (foldD D (pend.take n)) ∧ Kept (fun k => k = d ∨ k = db) w w' := by
  obtain ⟨c0, c1, c2, c3, c4, c5, c6, c7, cf⟩ := hd.cells
  have hne := hd.ne_map hD
  have hpc : pend.length ≤ capp := by
    rcases hP.2 with ⟨e, _⟩ | ⟨g', cap', cur, e, _, _, h1, _⟩
    · cases e
    · cases e; exact h1
  have hcapp : capp ≤ maxLen := by
    rcases hP.2 with ⟨e, _⟩ | ⟨g', cap', cur, e, _, _, h1, h2, _⟩
    · cases e
    · cases e; exact h2
  have HP : Hid (w.ownsRow 0 101 3 (.slice (some ⟨g, 0, none⟩) pend.length capp) pend.length (chRow pend)) := hP
  have HO : Hid (∀ c ∈ pend, OkCh c) := hok
  have hnc : n ≤ capp := by omega
  clear hP hok
  go_enter Try.func37, Try.ntmps37
  go_wp2
  go_loopw [13] (fun i wr => ∃ k : Nat, k ≤ n ∧ i = .int .i64 k ∧ DiskAt wr d cap used ops nb db (.slice (some ⟨g, 0, none⟩) pend.length capp) fb stop ∧ wr.ownsMap Try.prog 9 fileElem db (n0 + k) (foldD D (pend.take k)) ∧ Kept (fun i => i = db) w wr) (fun i _ => n - (intOf i).toNat)
  case atStart => exact ⟨0, Nat.zero_le _, rfl, hd, hD, Kept.refl _ w⟩
  case round =>
    obtain ⟨k, hk, rfl, hdr, hDr, hkr⟩ := hrel
    clear c0 c1 c2 c3 c4 c5 c6 c7 cf
    obtain ⟨c0, c1, c2, c3, c4, c5, c6, c7, cf⟩ := hdr.cells
    by_cases hlt : k < n
    · have hkp : k < pend.length := by omega
      have hPr := hkr.ownsRow HP.out (fun i hi e => map_ne_row hD HP.out (by rw [hi, e]))
      obtain ⟨x0, x1, x2⟩ := chRow_at pend k hkp
      have hcel := hPr.cells (g := g) rfl
      have y0 := hcel _ _ x0
      have y1 := hcel _ _ x1
      have y2 := hcel _ _ x2
      rw [Addr.add_lit] at y0 y1 y2
      simp only [Nat.zero_add] at y0 y1 y2
      have hc := HO.out pend[k] (List.getElem_mem _)
      have HC : Hid (OkCh pend[k]) := hc
      have HS : Hid (foldD D (pend.take (k + 1)) = doD (foldD D (pend.take k)) pend[k].1 pend[k].2.1 (pdD pend[k].2.2)) := by
        show _ = _
        unfold foldD
        rw [List.take_succ_eq_append_getElem hkp, List.foldl_append]
        rfl
      have HB : Hid (n0 + k < 1000000000) := by show _ < _; omega
      clear hc hcel hPr x0 x1 x2
      generalize pend[k] = c at *
      obtain ⟨old, name, p⟩ := c
      simp only at y0 y1 y2
      go_wp2_with fail
      have hmid : Mid d cap used ops nb db (.slice (some ⟨g, 0, none⟩) pend.length capp) fb stop wr.heap.size old name p (wr.alloc (.cells #[.string old, .string name, .pointer p] 101)) := ⟨hdr.alloc _, heap_alloc_new wr _⟩
      go_region_held3 (fun w' => w'.cell? ⟨d, 4, none⟩ = some (.map (some db)) ∧ w'.cell? ⟨wr.heap.size, 0, none⟩ = some (.string old) ∧ w'.cell? ⟨wr.heap.size, 1, none⟩ = some (.string name) ∧ w'.cell? ⟨wr.heap.size, 2, none⟩ = some (.pointer p) ∧ Mid d cap used ops nb db (.slice (some ⟨g, 0, none⟩) pend.length capp) fb stop wr.heap.size old name p w')
        (first | (refine Mid.all4 ?_; exact hmid) | (refine Mid.all4 ?_; assumption))
        (first | (go_at_call 63; refine (do_any db (n0 + k) _ old name p _ (wr.alloc (.cells #[.string old, .string name, .pointer p] 101)).drew (hDr.alloc _).drew HB.out (le_max HC.out.old) (le_max HC.out.name) HC.out.file).mono ?_; rintro e w' ⟨rfl, hND, hk⟩; have hmid2 : Mid d cap used ops nb db (.slice (some ⟨g, 0, none⟩) pend.length capp) fb stop wr.heap.size old name p w' := ⟨DiskAt.kept (w := (wr.alloc (.cells #[.string old, .string name, .pointer p] 101)).drew) (O := fun k => k = db) hmid.1 hk hne, Kept.heap (w := (wr.alloc (.cells #[.string old, .string name, .pointer p] 101)).drew) (O := fun k => k = db) hk hmid.2 (fun e => by have := hDr.lt; omega)⟩))
      go_wp2
      go_roundw
      case rel => exact ⟨k + 1, by omega, by go_num, hmid2.1, by rw [HS.out]; exact hND, (hkr.alloc _).drew.trans hk (fun _ _ e => e)⟩
      case measure => simp [intOf]; omega
    · have hkn : k = n := by omega
      subst hkn
      go_wp2
      go_end0
      refine ⟨rfl, hdr.set5 _, hDr.setCell hne.symm _, (Kept.mono (O' := fun k => k = d ∨ k = db) hkr (fun _ _ e => Or.inr e)).setCell (fun _ => Or.inl rfl) _⟩

set_option maxRecDepth 100000 in
set_option maxHeartbeats 1000000 in
theorem settle_nil (d : Nat) (cap used ops : Int) (nb db fb : Nat) (stop : Int) (w : World) (hd : DiskAt w d cap used ops nb db (.slice none 0 0) fb stop) :
    Calls Try.prog 37 #[.pointer (some ⟨d, 0, none⟩), .int .i64 0] w fun e w' => e = .returned (.tuple #[]) ∧ DiskAt w' d cap used ops nb db (.slice none 0 0) fb stop ∧ Kept (fun k => k = d) w w' := by
  obtain ⟨c0, c1, c2, c3, c4, c5, c6, c7, cf⟩ := hd.cells
  go_enter Try.func37, Try.ntmps37
  go_wp2
  go_loopw [13] (fun i wr => i = .int .i64 0 ∧ wr = w) (fun _ _ => 0)
  case atStart => exact ⟨rfl, rfl⟩
  case round =>
    obtain ⟨rfl, rfl⟩ := hrel
    go_wp2
    go_end0
    exact ⟨rfl, hd.set5 _, (Kept.refl (fun k => k = d) _).setCell (fun _ => rfl) _⟩

theorem settle_is {w : World} {d : Nat} {s : St} (h : IsDisk w d s) (n : Nat) (hn : n ≤ s.pend.length) (hb : s.n + s.pend.length < 1000000000) (hok : ∀ c ∈ s.pend, OkCh c) :
    Calls Try.prog 37 #[.pointer (some ⟨d, 0, none⟩), .int .i64 n] w fun e w' => e = .returned (.tuple #[]) ∧
      IsDisk w' d { s with D := foldD s.D (s.pend.take n), pend := [], pv := .slice none 0 0, n := s.n + n } ∧ Kept (fun k => k = d ∨ k = s.db) w w' := by
  have fin : ∀ w', DiskAt w' d s.cap s.used s.ops s.nb s.db (.slice none 0 0) s.fb s.stop → w'.ownsMap Try.prog 9 fileElem s.db (s.n + n) (foldD s.D (s.pend.take n)) → Kept (fun k => k = d ∨ k = s.db) w w' →
      IsDisk w' d { s with D := foldD s.D (s.pend.take n), pend := [], pv := .slice none 0 0, n := s.n + n } := fun w' hd hD hk =>
    ⟨hd, (hk.ownsMap h.mN (fun e => e.elim (fun e => h.at_.ne_map h.mN e.symm) h.nd)).mono (Nat.le_add_right _ _), hD, (hk.ownsMap h.mF (fun e => e.elim (fun e => h.at_.ne_map h.mF e.symm) (fun e => h.df e.symm))).mono (Nat.le_add_right _ _),
      World.ownsRow_nil _ _ _ _, h.nd, h.nf, h.df, h.o0, h.s0, h.s1⟩
  have hrow := h.row
  have hat := h.at_
  rcases hrow.2 with ⟨e, e0⟩ | ⟨g, cap, cur, e, _⟩
  · have hn0 : n = 0 := by omega
    subst hn0
    rw [e] at hat
    refine (settle_nil d _ _ _ _ _ _ _ w hat).mono fun e' w' ⟨he, hd, hk⟩ => ?_
    have hk' : Kept (fun k => k = d ∨ k = s.db) w w' := hk.mono (fun _ _ e => Or.inl e)
    refine ⟨he, fin w' hd ?_ hk', hk'⟩
    have := hk.ownsMap h.mD (fun e => h.at_.ne_map h.mD e.symm)
    simpa [foldD] using this
  · rw [e] at hat hrow
    exact (settle_row d g cap _ _ _ _ _ _ _ s.n n s.D s.pend w hat h.mD hrow hn hb hok).mono fun e' w' ⟨he, hd, hD, hk⟩ => ⟨he, fin w' hd hD hk, hk⟩

set_option maxRecDepth 100000 in
set_option maxHeartbeats 1000000 in
theorem syncDir_ok {w : World} {d : Nat} {s : St} (h : IsDisk w d s) (ho : s.ops < 1000000000) (hE : s.err = 0) (hb : s.n + s.pend.length < 1000000000) (hok : ∀ c ∈ s.pend, OkCh c) :
    Calls Try.prog 36 #[.pointer (some ⟨d, 0, none⟩)] w fun e w' => e = .returned (.int .i64 0) ∧
      IsDisk w' d { s.begun with D := foldD s.D s.pend, pend := [], pv := .slice none 0 0, n := s.n + s.pend.length } ∧ Kept (s.own d) w w' := by
  obtain ⟨cc, _, hbeg⟩ := begin_is h ho
  rw [hE, torn_of_ok hE] at hbeg
  have HO : Hid (∀ c ∈ s.pend, OkCh c) := hok
  clear hok
  obtain ⟨pa, pc, hpv⟩ := slice_of_row h.row
  have HC : Hid (∀ w1, IsDisk w1 d s.begun → w1.cell? ⟨d, 5, none⟩ = some (.slice pa s.pend.length pc)) := fun w1 hI => by
    have := hI.at_.cells.2.2.2.2.2.1
    rw [← hpv]
    exact this
  clear hpv
  go_enter Try.func36, Try.ntmps36
  go_wp2_with (first | (go_at_call 59; refine hbeg.mono ?_; rintro e w1 ⟨rfl, hI, hk⟩; have c5 := HC.out w1 hI) | (go_at_call 37; refine (settle_is hI s.pend.length (Nat.le_refl _) hb HO.out).mono ?_; rintro e w2 ⟨rfl, hI2, hk2⟩))
  go_ret
  have e1 : s.begun.pend.take s.pend.length = s.pend := List.take_length
  rw [e1] at hI2
  exact ⟨rfl, hI2, (hk.mono (fun _ _ e => begun_own e)).trans hk2 (fun _ _ e => e.elim Or.inl (fun e => Or.inr (Or.inr (Or.inl e))))⟩

end Go.Proofs.Ytipakfdebccchaa
