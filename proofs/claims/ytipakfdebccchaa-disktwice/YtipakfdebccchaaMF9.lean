/- An operation of the pair: what holds between the program's and the document's. -/
import Derived.Test.YtipakfdebccchaaMF8
namespace Go.Proofs.Ytipakfdebccchaa
open Go.RowKit Go.Maps Go.Sort

structure OpV where
  act : Int
  n : Int
  k : Int
  name : ByteArray
  dest : ByteArray
  bv : Value
  bs : List UInt8
  cv : Value
  cs : List Int

/-- The operation's record, boxed. -/
def opCells (x : OpV) (act : Int) : Array Value := #[.int .i64 act, .int .i64 x.n, .int .i64 x.k, .string x.name, .string x.dest, x.bv, x.cv]

/-- The pair's block and the operation's, both there. -/
def Both (p d r B : Nat) (x : OpV) (act : Int) (w : World) : Prop := w.heap[p]? = some (.cells #[.pointer (some ⟨d, 0, none⟩), .pointer (some ⟨r, 0, none⟩)] 29) ∧ w.heap[B]? = some (.cells (opCells x act) 34)
theorem Both.all {p d r B : Nat} {x : OpV} {act : Int} {w : World} (h : Both p d r B x act w) : w.cell? ⟨p, 0, none⟩ = some (.pointer (some ⟨d, 0, none⟩)) ∧ w.cell? ⟨p, 1, none⟩ = some (.pointer (some ⟨r, 0, none⟩)) ∧ w.cell? ⟨B, 0, none⟩ = some (.int .i64 act) ∧ w.cell? ⟨B, 1, none⟩ = some (.int .i64 x.n) ∧ w.cell? ⟨B, 2, none⟩ = some (.int .i64 x.k) ∧ w.cell? ⟨B, 3, none⟩ = some (.string x.name) ∧ w.cell? ⟨B, 4, none⟩ = some (.string x.dest) ∧ w.cell? ⟨B, 5, none⟩ = some x.bv ∧ w.cell? ⟨B, 6, none⟩ = some x.cv ∧ Both p d r B x act w :=
  ⟨by rw [cell_of_heap h.1]; rfl, by rw [cell_of_heap h.1]; rfl, by rw [cell_of_heap h.2]; rfl, by rw [cell_of_heap h.2]; rfl, by rw [cell_of_heap h.2]; rfl, by rw [cell_of_heap h.2]; rfl, by rw [cell_of_heap h.2]; rfl, by rw [cell_of_heap h.2]; rfl, by rw [cell_of_heap h.2]; rfl, h⟩
theorem Both.kept {p d r B : Nat} {x : OpV} {act : Int} {w w' : World} (h : Both p d r B x act w) {O : Nat → Prop} (k : Kept O w w') (h1 : ¬ O p) (h2 : ¬ O B) : Both p d r B x act w' := ⟨k.heap h.1 h1, k.heap h.2 h2⟩
theorem Both.below {p d r B : Nat} {x : OpV} {act : Int} {w w' : World} (h : Both p d r B x act w) (hb : Below w.heap.size w w') : Both p d r B x act w' := h.kept ((Kept.refl (fun _ => False) w).below hb) id id
theorem po_no {Z : Nat → Prop} {base : Nat} {w : World} {b : Nat} {cs : Array Value} {t : TypeId} {fr : Nat × Nat} (e : w.heap[b]? = some (.cells cs t fr)) (e1 : t ≠ 59) (e2 : t ≠ 101) (e3 : t ≠ 72) (e4 : t = 5 → ¬ Z b) : ¬ PO Z base w b := fun hp => by
  rcases hp.2 with ⟨es, c, h3⟩ | ⟨cs', t', fr', h3, h4⟩
  · rw [e] at h3; cases h3
  · rw [e] at h3
    simp at h3
    obtain ⟨_, rfl, _⟩ := h3
    rcases h4 with h4 | h4 | h4 | ⟨h4, h5⟩
    · exact e1 h4
    · exact e2 h4
    · exact e3 h4
    · exact e4 h4 h5
theorem ty_no {base : Nat} {w : World} {b : Nat} {cs : Array Value} {t : TypeId} {fr : Nat × Nat} (e : w.heap[b]? = some (.cells cs t fr)) (e1 : refT t = false) : ¬ Ty (refS base) w b := fun ⟨cs', t', fr', h1, h2⟩ => by
  rw [e] at h1
  simp at h1
  obtain ⟨_, rfl, _⟩ := h1
  simp [refS, e1] at h2
theorem Both.prog {p d r B : Nat} {x : OpV} {act : Int} {w w' : World} (h : Both p d r B x act w) {Z : Nat → Prop} {base : Nat} (k : KP Z base w w') : Both p d r B x act w' :=
  h.kept (O := PO Z base w) k (po_no h.1 (by decide) (by decide) (by decide) (fun e => absurd e (by decide))) (po_no h.2 (by decide) (by decide) (by decide) (fun e => absurd e (by decide)))
theorem Both.doc {p d r B : Nat} {x : OpV} {act : Int} {w w' : World} (h : Both p d r B x act w) {base : Nat} (k : KT (refS base) w w') : Both p d r B x act w' :=
  h.kept (O := Ty (refS base) w) k (ty_no h.1 rfl) (ty_no h.2 rfl)

theorem RefIs.shrink {w : World} {r base : Nat} {a : RA} (h : RefIs w r base a) {Z : Nat → Prop} (hZ : ∀ b, Z b → a.zone b) : RefIs w r base (a.withZ Z) := by
  obtain ⟨s, hI, h1, rfl⟩ := h
  exact ⟨{ s with zone := Z }, ⟨hI.lo, hI.at_, hI.rF, hI.rD, hI.rK, hI.rP, hI.rQ, hI.bytes, ⟨fun b hb => hI.sep.1 b (hZ b hb), fun x hx b hb hz => hI.sep.2 x hx b hb (hZ b hz)⟩⟩, h1, rfl⟩
theorem RefIs.fresh {w w' : World} {r base : Nat} {a : RA} (h : RefIs w r base a) (hb : Below w.heap.size w w') : RefIs w' r base (a.withZ (newZ a.zone w w')) := h.prog (base' := 0) (KP.below hb)
theorem KP.wide {Z Z' : Nat → Prop} {base : Nat} {w w' : World} (h : KP Z base w w') (hZ : ∀ b, Z b → Z' b) : KP Z' base w w' := Kept.mono h (fun i _ ⟨h1, h2⟩ => ⟨h1, by
  rcases h2 with h2 | ⟨cs, t, fr, h3, h4⟩
  · exact Or.inl h2
  · refine Or.inr ⟨cs, t, fr, h3, ?_⟩
    rcases h4 with h4 | h4 | h4 | ⟨h4, h5⟩
    · exact Or.inl h4
    · exact Or.inr (Or.inl h4)
    · exact Or.inr (Or.inr (Or.inl h4))
    · exact Or.inr (Or.inr (Or.inr ⟨h4, hZ i h5⟩))⟩)
/-- Bytes of the zone may turn. -/
theorem RefIs.touch {w w' : World} {r base : Nat} {a : RA} (h : RefIs w r base a) {g : Nat} (k : Kept (fun i => i = g) w w') (hg : a.zone g) (ht : ∃ cs fr, w.heap[g]? = some (.cells cs 5 fr)) : RefIs w' r base a := by
  obtain ⟨s, hI, h1, rfl⟩ := h
  obtain ⟨cs, fr, ht⟩ := ht
  have no : ∀ {b : Nat} {cs' : Array Value} {t : TypeId} {fr' : Nat × Nat}, w.heap[b]? = some (.cells cs' t fr') → t ≠ 5 → ¬ b = g := fun {b cs' t fr'} e1 e2 e3 => by
    subst e3
    rw [ht] at e1
    simp at e1
    exact e2 e1.2.1.symm
  have nor : ∀ {base n size : Nat} {e : TypeId} {v : Value} {xs : List Value}, w.ownsRow base e size v n xs → e ≠ 5 → ∀ b, v.ownBlock = some b → ¬ b = g := fun ho he b hb => by
    obtain ⟨cs', fr', e1⟩ := row_block ho hb
    exact no e1 he
  have hat := hI.at_
  refine ⟨s, ⟨hI.lo, k.heap hat (no hat (by decide)), k.ownsRow hI.rF (nor hI.rF (by decide)), k.ownsRow hI.rD (nor hI.rD (by decide)), k.ownsRow hI.rK (nor hI.rK (by decide)), k.ownsRow hI.rP (nor hI.rP (by decide)), k.ownsRow hI.rQ (nor hI.rQ (by decide)), fun x hx => ?_, hI.sep.of k.size rfl rfl⟩, h1, rfl⟩
  have hz : ∀ b, x.1.ownBlock = some b → ¬ b = g := fun b hb e => hI.sep.2 x hx b hb (by subst e; exact hg)
  refine ⟨(hI.bytes x hx).at_.kept k (fun b hb _ => hz b hb), fun b hb => ?_⟩
  obtain ⟨cs', fr', e⟩ := (hI.bytes x hx).blk b hb
  exact ⟨cs', fr', k.heap e (hz b hb)⟩

/-- Behind the program's operation, ahead of the document's. -/
structure Mid2 (w0 W w1 : World) (p d r B base k : Nat) (x : OpV) (act : Int) (a b : RA) : Prop where
  both : Both p d r B x act w1
  prog : PIs w1 d base (k + 1) (newZ a.zone W w1) b
  doc : RefIs w1 r base (a.withZ (newZ a.zone W w1))
  bel : Below base w0 w1
/-- Behind both. -/
def Done (w0 w2 : World) (p d r base k : Nat) (b : RA) : Prop := ∃ Z, PW w2 p d r base (k + 1) (b.withZ Z) ∧ Below base w0 w2

theorem mid_of {w0 W w1 : World} {p d r B base k : Nat} {x : OpV} {act : Int} {a b : RA} (hB : Both p d r B x act W) (h : PW W p d r base k a) (hbel : Below base w0 W) (hbw : base ≤ W.heap.size) (hP : PIs w1 d base (k + 1) (newZ a.zone W w1) b) (hK : KP a.zone base W w1) : Mid2 w0 W w1 p d r B base k x act a b :=
  ⟨hB.prog hK, hP, h.doc.prog hK, hbel.trans (hK.toBelow hbw)⟩
theorem done_of {w0 W w1 w2 : World} {p d r B base k : Nat} {x : OpV} {act : Int} {a b : RA} (h : Mid2 w0 W w1 p d r B base k x act a b) (hi : Inv (k + 1) (k + 1) b) (hbw : base ≤ w1.heap.size) (hR : RefIs w2 r base (b.withZ (newZ a.zone W w1))) (hK : KT (refS base) w1 w2) : Both p d r B x act w2 ∧ Done w0 w2 p d r base k b := by
  have hB := h.both.doc hK
  exact ⟨hB, _, ⟨hB.1, (h.prog.doc hK).withZ _, hR, hi.withZ _⟩, h.bel.trans (hK.toBelow hbw (Nat.le_refl _))⟩

set_option maxRecDepth 100000 in
set_option maxHeartbeats 2000000 in
theorem op_create {w : World} {p d r base k : Nat} {a : RA} (h : PW w p d r base k a) (hk : k ≤ 999) (x : OpV) (hbw : base ≤ w.heap.size) (hs : x.name.size ≤ maxLen) :
    Calls Try.prog 27 #[.pointer (some ⟨p, 0, none⟩), .agg #[.int .i64 0, .int .i64 x.n, .int .i64 x.k, .string x.name, .string x.dest, x.bv, x.cv]] w fun e w' => e = .returned (.bool true) ∧ Done w w' p d r base k (a.doCreate x.name).2 := by
  have HP : Hid (∀ W, Both p d r w.heap.size x 0 W → PW W p d r base k a → Below base w W → base ≤ W.heap.size → Calls Try.prog 33 #[.pointer (some ⟨d, 0, none⟩), .string x.name] W fun e w1 => e = .returned (.int .i64 (a.doCreate x.name).1) ∧ Mid2 w W w1 p d r w.heap.size base k x 0 a (a.doCreate x.name).2 ∧ base ≤ w1.heap.size) := fun W hB hW hbel hb => by
    obtain ⟨s, fs, blk, hP⟩ := hW.prog
    exact (P_create hP hW.inv (by omega) (by omega) x.name hs).mono (fun e w1 ⟨he, hP1, hK⟩ => ⟨he, mid_of hB hW hbel hb hP1 hK, Nat.le_trans hb hK.size⟩)
  have HD : Hid (∀ W w1, Mid2 w W w1 p d r w.heap.size base k x 0 a (a.doCreate x.name).2 → base ≤ w1.heap.size → Calls Try.prog 49 #[.pointer (some ⟨r, 0, none⟩), .string x.name] w1 fun e w2 => e = .returned (.int .i64 (a.doCreate x.name).1) ∧ Both p d r w.heap.size x 0 w2 ∧ Done w w2 p d r base k (a.doCreate x.name).2) := fun W w1 hM hb => by
    have h1 := D_create hM.doc (h.inv.withZ _) (by omega) (by omega) x.name hs
    rw [withZ_create] at h1
    exact h1.mono (fun e w2 ⟨he, hR, hK⟩ => ⟨he, done_of hM (h.inv.doCreate x.name) hb hR hK⟩)
  have HS : Hid (Both p d r w.heap.size x 0 (w.alloc (.cells (opCells x 0) 34)) ∧ PW (w.alloc (.cells (opCells x 0) 34)) p d r base k a ∧ Below base w (w.alloc (.cells (opCells x 0) 34)) ∧ base ≤ (w.alloc (.cells (opCells x 0) 34)).heap.size) := by
    have hb : Below w.heap.size w (w.alloc (.cells (opCells x 0) 34)) := (Below.refl _ w).alloc (Nat.le_refl _) _
    exact ⟨⟨(h.below hb).pair, heap_alloc_new w _⟩, h.below hb, hb.mono hbw, Nat.le_trans hbw hb.size⟩
  clear h
  generalize (a.doCreate x.name).1 = er at *
  generalize (a.doCreate x.name).2 = b at *
  go_enter Try.func27, Try.ntmps27
  go_wp2_with fail
  refine goOn (S := fun W => Both p d r w.heap.size x 0 W ∧ PW W p d r base k a ∧ Below base w W ∧ base ≤ W.heap.size) HS.out ?_
  rintro W ⟨hB, hW, hbl, hbz⟩
  obtain ⟨b0, b1, b2, b3, b4, b5, b6, b7, b8, _⟩ := hB.all
  have HPW : Hid (Calls Try.prog 33 #[.pointer (some ⟨d, 0, none⟩), .string x.name] W.drew fun e w1 => e = .returned (.int .i64 er) ∧ Mid2 w W.drew w1 p d r w.heap.size base k x 0 a b ∧ base ≤ w1.heap.size) := HP.out W.drew (hB.below (Below.refl _ W).drew) (hW.below (Below.refl _ W).drew) hbl.drew hbz
  clear hW hbl hbz HP HS
  go_wp2_with fail
  go_region_held3 (fun w' => w'.cell? ⟨p, 0, none⟩ = some (.pointer (some ⟨d, 0, none⟩)) ∧ w'.cell? ⟨p, 1, none⟩ = some (.pointer (some ⟨r, 0, none⟩)) ∧ w'.cell? ⟨w.heap.size, 0, none⟩ = some (.int .i64 0) ∧ w'.cell? ⟨w.heap.size, 1, none⟩ = some (.int .i64 x.n) ∧ w'.cell? ⟨w.heap.size, 2, none⟩ = some (.int .i64 x.k) ∧ w'.cell? ⟨w.heap.size, 3, none⟩ = some (.string x.name) ∧ w'.cell? ⟨w.heap.size, 4, none⟩ = some (.string x.dest) ∧ w'.cell? ⟨w.heap.size, 5, none⟩ = some x.bv ∧ w'.cell? ⟨w.heap.size, 6, none⟩ = some x.cv ∧ Both p d r w.heap.size x 0 w')
    (first | (refine Both.all ?_; exact hB) | (refine Both.all ?_; assumption))
    (first
      | (go_at_call 33; refine HPW.out.mono ?_; rintro e w1 ⟨rfl, hM, hb1⟩; have hB1 := hM.both; clear HPW)
      | (go_at_call 49; refine (HD.out _ _ hM hb1).mono ?_; rintro e w2 ⟨rfl, hB2, hD2⟩; clear HD))
  all_goals
    go_wp2
    go_ret
    exact ⟨rfl, hD2⟩

set_option maxRecDepth 100000 in
set_option maxHeartbeats 2000000 in
theorem op_sync {w : World} {p d r base k : Nat} {a : RA} (h : PW w p d r base k a) (hk : k ≤ 999) (x : OpV) (hbw : base ≤ w.heap.size) (hs : x.name.size ≤ maxLen) :
    Calls Try.prog 27 #[.pointer (some ⟨p, 0, none⟩), .agg #[.int .i64 2, .int .i64 x.n, .int .i64 x.k, .string x.name, .string x.dest, x.bv, x.cv]] w fun e w' => e = .returned (.bool true) ∧ Done w w' p d r base k (a.doSync x.name).2 := by
  have HP : Hid (∀ W, Both p d r w.heap.size x 2 W → PW W p d r base k a → Below base w W → base ≤ W.heap.size → Calls Try.prog 35 #[.pointer (some ⟨d, 0, none⟩), .string x.name] W fun e w1 => e = .returned (.int .i64 (a.doSync x.name).1) ∧ Mid2 w W w1 p d r w.heap.size base k x 2 a (a.doSync x.name).2 ∧ base ≤ w1.heap.size) := fun W hB hW hbel hb => by
    obtain ⟨s, fs, blk, hP⟩ := hW.prog
    exact (P_sync hP hW.inv (by omega) (by omega) x.name hs).mono (fun e w1 ⟨he, hP1, hK⟩ => ⟨he, mid_of hB hW hbel hb hP1 hK, Nat.le_trans hb hK.size⟩)
  have HD : Hid (∀ W w1, Mid2 w W w1 p d r w.heap.size base k x 2 a (a.doSync x.name).2 → base ≤ w1.heap.size → Calls Try.prog 53 #[.pointer (some ⟨r, 0, none⟩), .string x.name] w1 fun e w2 => e = .returned (.int .i64 (a.doSync x.name).1) ∧ Both p d r w.heap.size x 2 w2 ∧ Done w w2 p d r base k (a.doSync x.name).2) := fun W w1 hM hb => by
    have h1 := D_sync hM.doc (h.inv.withZ _) (by omega) (by omega) x.name hs
    rw [withZ_sync] at h1
    exact h1.mono (fun e w2 ⟨he, hR, hK⟩ => ⟨he, done_of hM (h.inv.doSync x.name) hb hR hK⟩)
  have HS : Hid (Both p d r w.heap.size x 2 (w.alloc (.cells (opCells x 2) 34)) ∧ PW (w.alloc (.cells (opCells x 2) 34)) p d r base k a ∧ Below base w (w.alloc (.cells (opCells x 2) 34)) ∧ base ≤ (w.alloc (.cells (opCells x 2) 34)).heap.size) := by
    have hb : Below w.heap.size w (w.alloc (.cells (opCells x 2) 34)) := (Below.refl _ w).alloc (Nat.le_refl _) _
    exact ⟨⟨(h.below hb).pair, heap_alloc_new w _⟩, h.below hb, hb.mono hbw, Nat.le_trans hbw hb.size⟩
  clear h
  generalize (a.doSync x.name).1 = er at *
  generalize (a.doSync x.name).2 = b at *
  go_enter Try.func27, Try.ntmps27
  go_wp2_with fail
  refine goOn (S := fun W => Both p d r w.heap.size x 2 W ∧ PW W p d r base k a ∧ Below base w W ∧ base ≤ W.heap.size) HS.out ?_
  rintro W ⟨hB, hW, hbl, hbz⟩
  obtain ⟨b0, b1, b2, b3, b4, b5, b6, b7, b8, _⟩ := hB.all
  have HPW : Hid (Calls Try.prog 35 #[.pointer (some ⟨d, 0, none⟩), .string x.name] W.drew fun e w1 => e = .returned (.int .i64 er) ∧ Mid2 w W.drew w1 p d r w.heap.size base k x 2 a b ∧ base ≤ w1.heap.size) := HP.out W.drew (hB.below (Below.refl _ W).drew) (hW.below (Below.refl _ W).drew) hbl.drew hbz
  clear hW hbl hbz HP HS
  go_wp2_with fail
  go_region_held3 (fun w' => w'.cell? ⟨p, 0, none⟩ = some (.pointer (some ⟨d, 0, none⟩)) ∧ w'.cell? ⟨p, 1, none⟩ = some (.pointer (some ⟨r, 0, none⟩)) ∧ w'.cell? ⟨w.heap.size, 0, none⟩ = some (.int .i64 2) ∧ w'.cell? ⟨w.heap.size, 1, none⟩ = some (.int .i64 x.n) ∧ w'.cell? ⟨w.heap.size, 2, none⟩ = some (.int .i64 x.k) ∧ w'.cell? ⟨w.heap.size, 3, none⟩ = some (.string x.name) ∧ w'.cell? ⟨w.heap.size, 4, none⟩ = some (.string x.dest) ∧ w'.cell? ⟨w.heap.size, 5, none⟩ = some x.bv ∧ w'.cell? ⟨w.heap.size, 6, none⟩ = some x.cv ∧ Both p d r w.heap.size x 2 w')
    (first | (refine Both.all ?_; exact hB) | (refine Both.all ?_; assumption))
    (first
      | (go_at_call 35; refine HPW.out.mono ?_; rintro e w1 ⟨rfl, hM, hb1⟩; have hB1 := hM.both; clear HPW)
      | (go_at_call 53; refine (HD.out _ _ hM hb1).mono ?_; rintro e w2 ⟨rfl, hB2, hD2⟩; clear HD))
  all_goals
    go_wp2
    go_ret
    exact ⟨rfl, hD2⟩

set_option maxRecDepth 100000 in
set_option maxHeartbeats 2000000 in
theorem op_rename {w : World} {p d r base k : Nat} {a : RA} (h : PW w p d r base k a) (hk : k ≤ 999) (x : OpV) (hbw : base ≤ w.heap.size) (hs : x.name.size ≤ maxLen) (hs2 : x.dest.size ≤ maxLen) :
    Calls Try.prog 27 #[.pointer (some ⟨p, 0, none⟩), .agg #[.int .i64 3, .int .i64 x.n, .int .i64 x.k, .string x.name, .string x.dest, x.bv, x.cv]] w fun e w' => e = .returned (.bool true) ∧ Done w w' p d r base k (a.doRename x.name x.dest).2 := by
  have HP : Hid (∀ W, Both p d r w.heap.size x 3 W → PW W p d r base k a → Below base w W → base ≤ W.heap.size → Calls Try.prog 54 #[.pointer (some ⟨d, 0, none⟩), .string x.name, .string x.dest] W fun e w1 => e = .returned (.int .i64 (a.doRename x.name x.dest).1) ∧ Mid2 w W w1 p d r w.heap.size base k x 3 a (a.doRename x.name x.dest).2 ∧ base ≤ w1.heap.size) := fun W hB hW hbel hb => by
    obtain ⟨s, fs, blk, hP⟩ := hW.prog
    exact (P_rename hP hW.inv (by omega) (by omega) x.name x.dest hs hs2).mono (fun e w1 ⟨he, hP1, hK⟩ => ⟨he, mid_of hB hW hbel hb hP1 hK, Nat.le_trans hb hK.size⟩)
  have HD : Hid (∀ W w1, Mid2 w W w1 p d r w.heap.size base k x 3 a (a.doRename x.name x.dest).2 → base ≤ w1.heap.size → Calls Try.prog 55 #[.pointer (some ⟨r, 0, none⟩), .string x.name, .string x.dest] w1 fun e w2 => e = .returned (.int .i64 (a.doRename x.name x.dest).1) ∧ Both p d r w.heap.size x 3 w2 ∧ Done w w2 p d r base k (a.doRename x.name x.dest).2) := fun W w1 hM hb => by
    have h1 := D_rename hM.doc (h.inv.withZ _) (by omega) (by omega) x.name x.dest hs hs2
    rw [withZ_rename] at h1
    exact h1.mono (fun e w2 ⟨he, hR, hK⟩ => ⟨he, done_of hM (h.inv.doRename x.name x.dest) hb hR hK⟩)
  have HS : Hid (Both p d r w.heap.size x 3 (w.alloc (.cells (opCells x 3) 34)) ∧ PW (w.alloc (.cells (opCells x 3) 34)) p d r base k a ∧ Below base w (w.alloc (.cells (opCells x 3) 34)) ∧ base ≤ (w.alloc (.cells (opCells x 3) 34)).heap.size) := by
    have hb : Below w.heap.size w (w.alloc (.cells (opCells x 3) 34)) := (Below.refl _ w).alloc (Nat.le_refl _) _
    exact ⟨⟨(h.below hb).pair, heap_alloc_new w _⟩, h.below hb, hb.mono hbw, Nat.le_trans hbw hb.size⟩
  clear h
  generalize (a.doRename x.name x.dest).1 = er at *
  generalize (a.doRename x.name x.dest).2 = b at *
  go_enter Try.func27, Try.ntmps27
  go_wp2_with fail
  refine goOn (S := fun W => Both p d r w.heap.size x 3 W ∧ PW W p d r base k a ∧ Below base w W ∧ base ≤ W.heap.size) HS.out ?_
  rintro W ⟨hB, hW, hbl, hbz⟩
  obtain ⟨b0, b1, b2, b3, b4, b5, b6, b7, b8, _⟩ := hB.all
  have HPW : Hid (Calls Try.prog 54 #[.pointer (some ⟨d, 0, none⟩), .string x.name, .string x.dest] W.drew fun e w1 => e = .returned (.int .i64 er) ∧ Mid2 w W.drew w1 p d r w.heap.size base k x 3 a b ∧ base ≤ w1.heap.size) := HP.out W.drew (hB.below (Below.refl _ W).drew) (hW.below (Below.refl _ W).drew) hbl.drew hbz
  clear hW hbl hbz HP HS
  go_wp2_with fail
  go_region_held3 (fun w' => w'.cell? ⟨p, 0, none⟩ = some (.pointer (some ⟨d, 0, none⟩)) ∧ w'.cell? ⟨p, 1, none⟩ = some (.pointer (some ⟨r, 0, none⟩)) ∧ w'.cell? ⟨w.heap.size, 0, none⟩ = some (.int .i64 3) ∧ w'.cell? ⟨w.heap.size, 1, none⟩ = some (.int .i64 x.n) ∧ w'.cell? ⟨w.heap.size, 2, none⟩ = some (.int .i64 x.k) ∧ w'.cell? ⟨w.heap.size, 3, none⟩ = some (.string x.name) ∧ w'.cell? ⟨w.heap.size, 4, none⟩ = some (.string x.dest) ∧ w'.cell? ⟨w.heap.size, 5, none⟩ = some x.bv ∧ w'.cell? ⟨w.heap.size, 6, none⟩ = some x.cv ∧ Both p d r w.heap.size x 3 w')
    (first | (refine Both.all ?_; exact hB) | (refine Both.all ?_; assumption))
    (first
      | (go_at_call 54; refine HPW.out.mono ?_; rintro e w1 ⟨rfl, hM, hb1⟩; have hB1 := hM.both; clear HPW)
      | (go_at_call 55; refine (HD.out _ _ hM hb1).mono ?_; rintro e w2 ⟨rfl, hB2, hD2⟩; clear HD))
  all_goals
    go_wp2
    go_ret
    exact ⟨rfl, hD2⟩

set_option maxRecDepth 100000 in
set_option maxHeartbeats 2000000 in
theorem op_remove {w : World} {p d r base k : Nat} {a : RA} (h : PW w p d r base k a) (hk : k ≤ 999) (x : OpV) (hbw : base ≤ w.heap.size) (hs : x.name.size ≤ maxLen) :
    Calls Try.prog 27 #[.pointer (some ⟨p, 0, none⟩), .agg #[.int .i64 4, .int .i64 x.n, .int .i64 x.k, .string x.name, .string x.dest, x.bv, x.cv]] w fun e w' => e = .returned (.bool true) ∧ Done w w' p d r base k (a.doRemove x.name).2 := by
  have HP : Hid (∀ W, Both p d r w.heap.size x 4 W → PW W p d r base k a → Below base w W → base ≤ W.heap.size → Calls Try.prog 56 #[.pointer (some ⟨d, 0, none⟩), .string x.name] W fun e w1 => e = .returned (.int .i64 (a.doRemove x.name).1) ∧ Mid2 w W w1 p d r w.heap.size base k x 4 a (a.doRemove x.name).2 ∧ base ≤ w1.heap.size) := fun W hB hW hbel hb => by
    obtain ⟨s, fs, blk, hP⟩ := hW.prog
    exact (P_remove hP hW.inv (by omega) (by omega) x.name hs).mono (fun e w1 ⟨he, hP1, hK⟩ => ⟨he, mid_of hB hW hbel hb hP1 hK, Nat.le_trans hb hK.size⟩)
  have HD : Hid (∀ W w1, Mid2 w W w1 p d r w.heap.size base k x 4 a (a.doRemove x.name).2 → base ≤ w1.heap.size → Calls Try.prog 57 #[.pointer (some ⟨r, 0, none⟩), .string x.name] w1 fun e w2 => e = .returned (.int .i64 (a.doRemove x.name).1) ∧ Both p d r w.heap.size x 4 w2 ∧ Done w w2 p d r base k (a.doRemove x.name).2) := fun W w1 hM hb => by
    have h1 := D_remove hM.doc (h.inv.withZ _) (by omega) (by omega) x.name hs
    rw [withZ_remove] at h1
    exact h1.mono (fun e w2 ⟨he, hR, hK⟩ => ⟨he, done_of hM (h.inv.doRemove x.name) hb hR hK⟩)
  have HS : Hid (Both p d r w.heap.size x 4 (w.alloc (.cells (opCells x 4) 34)) ∧ PW (w.alloc (.cells (opCells x 4) 34)) p d r base k a ∧ Below base w (w.alloc (.cells (opCells x 4) 34)) ∧ base ≤ (w.alloc (.cells (opCells x 4) 34)).heap.size) := by
    have hb : Below w.heap.size w (w.alloc (.cells (opCells x 4) 34)) := (Below.refl _ w).alloc (Nat.le_refl _) _
    exact ⟨⟨(h.below hb).pair, heap_alloc_new w _⟩, h.below hb, hb.mono hbw, Nat.le_trans hbw hb.size⟩
  clear h
  generalize (a.doRemove x.name).1 = er at *
  generalize (a.doRemove x.name).2 = b at *
  go_enter Try.func27, Try.ntmps27
  go_wp2_with fail
  refine goOn (S := fun W => Both p d r w.heap.size x 4 W ∧ PW W p d r base k a ∧ Below base w W ∧ base ≤ W.heap.size) HS.out ?_
  rintro W ⟨hB, hW, hbl, hbz⟩
  obtain ⟨b0, b1, b2, b3, b4, b5, b6, b7, b8, _⟩ := hB.all
  have HPW : Hid (Calls Try.prog 56 #[.pointer (some ⟨d, 0, none⟩), .string x.name] W.drew fun e w1 => e = .returned (.int .i64 er) ∧ Mid2 w W.drew w1 p d r w.heap.size base k x 4 a b ∧ base ≤ w1.heap.size) := HP.out W.drew (hB.below (Below.refl _ W).drew) (hW.below (Below.refl _ W).drew) hbl.drew hbz
  clear hW hbl hbz HP HS
  go_wp2_with fail
  go_region_held3 (fun w' => w'.cell? ⟨p, 0, none⟩ = some (.pointer (some ⟨d, 0, none⟩)) ∧ w'.cell? ⟨p, 1, none⟩ = some (.pointer (some ⟨r, 0, none⟩)) ∧ w'.cell? ⟨w.heap.size, 0, none⟩ = some (.int .i64 4) ∧ w'.cell? ⟨w.heap.size, 1, none⟩ = some (.int .i64 x.n) ∧ w'.cell? ⟨w.heap.size, 2, none⟩ = some (.int .i64 x.k) ∧ w'.cell? ⟨w.heap.size, 3, none⟩ = some (.string x.name) ∧ w'.cell? ⟨w.heap.size, 4, none⟩ = some (.string x.dest) ∧ w'.cell? ⟨w.heap.size, 5, none⟩ = some x.bv ∧ w'.cell? ⟨w.heap.size, 6, none⟩ = some x.cv ∧ Both p d r w.heap.size x 4 w')
    (first | (refine Both.all ?_; exact hB) | (refine Both.all ?_; assumption))
    (first
      | (go_at_call 56; refine HPW.out.mono ?_; rintro e w1 ⟨rfl, hM, hb1⟩; have hB1 := hM.both; clear HPW)
      | (go_at_call 57; refine (HD.out _ _ hM hb1).mono ?_; rintro e w2 ⟨rfl, hB2, hD2⟩; clear HD))
  all_goals
    go_wp2
    go_ret
    exact ⟨rfl, hD2⟩

set_option maxRecDepth 100000 in
set_option maxHeartbeats 2000000 in
theorem op_syncDir {w : World} {p d r base k : Nat} {a : RA} (h : PW w p d r base k a) (hk : k ≤ 999) (x : OpV) (hbw : base ≤ w.heap.size) :
    Calls Try.prog 27 #[.pointer (some ⟨p, 0, none⟩), .agg #[.int .i64 5, .int .i64 x.n, .int .i64 x.k, .string x.name, .string x.dest, x.bv, x.cv]] w fun e w' => e = .returned (.bool true) ∧ Done w w' p d r base k (a.doSyncDir).2 := by
  have HP : Hid (∀ W, Both p d r w.heap.size x 5 W → PW W p d r base k a → Below base w W → base ≤ W.heap.size → Calls Try.prog 36 #[.pointer (some ⟨d, 0, none⟩)] W fun e w1 => e = .returned (.int .i64 (a.doSyncDir).1) ∧ Mid2 w W w1 p d r w.heap.size base k x 5 a (a.doSyncDir).2 ∧ base ≤ w1.heap.size) := fun W hB hW hbel hb => by
    obtain ⟨s, fs, blk, hP⟩ := hW.prog
    exact (P_syncDir hP hW.inv (by omega) (by omega)).mono (fun e w1 ⟨he, hP1, hK⟩ => ⟨he, mid_of hB hW hbel hb hP1 hK, Nat.le_trans hb hK.size⟩)
  have HD : Hid (∀ W w1, Mid2 w W w1 p d r w.heap.size base k x 5 a (a.doSyncDir).2 → base ≤ w1.heap.size → Calls Try.prog 58 #[.pointer (some ⟨r, 0, none⟩)] w1 fun e w2 => e = .returned (.int .i64 (a.doSyncDir).1) ∧ Both p d r w.heap.size x 5 w2 ∧ Done w w2 p d r base k (a.doSyncDir).2) := fun W w1 hM hb => by
    have h1 := D_syncDir hM.doc (h.inv.withZ _) (by omega) (by omega)
    rw [withZ_syncDir] at h1
    exact h1.mono (fun e w2 ⟨he, hR, hK⟩ => ⟨he, done_of hM (h.inv.doSyncDir) hb hR hK⟩)
  have HS : Hid (Both p d r w.heap.size x 5 (w.alloc (.cells (opCells x 5) 34)) ∧ PW (w.alloc (.cells (opCells x 5) 34)) p d r base k a ∧ Below base w (w.alloc (.cells (opCells x 5) 34)) ∧ base ≤ (w.alloc (.cells (opCells x 5) 34)).heap.size) := by
    have hb : Below w.heap.size w (w.alloc (.cells (opCells x 5) 34)) := (Below.refl _ w).alloc (Nat.le_refl _) _
    exact ⟨⟨(h.below hb).pair, heap_alloc_new w _⟩, h.below hb, hb.mono hbw, Nat.le_trans hbw hb.size⟩
  clear h
  generalize (a.doSyncDir).1 = er at *
  generalize (a.doSyncDir).2 = b at *
  go_enter Try.func27, Try.ntmps27
  go_wp2_with fail
  refine goOn (S := fun W => Both p d r w.heap.size x 5 W ∧ PW W p d r base k a ∧ Below base w W ∧ base ≤ W.heap.size) HS.out ?_
  rintro W ⟨hB, hW, hbl, hbz⟩
  obtain ⟨b0, b1, b2, b3, b4, b5, b6, b7, b8, _⟩ := hB.all
  have HPW : Hid (Calls Try.prog 36 #[.pointer (some ⟨d, 0, none⟩)] W.drew fun e w1 => e = .returned (.int .i64 er) ∧ Mid2 w W.drew w1 p d r w.heap.size base k x 5 a b ∧ base ≤ w1.heap.size) := HP.out W.drew (hB.below (Below.refl _ W).drew) (hW.below (Below.refl _ W).drew) hbl.drew hbz
  clear hW hbl hbz HP HS
  go_wp2_with fail
  go_region_held3 (fun w' => w'.cell? ⟨p, 0, none⟩ = some (.pointer (some ⟨d, 0, none⟩)) ∧ w'.cell? ⟨p, 1, none⟩ = some (.pointer (some ⟨r, 0, none⟩)) ∧ w'.cell? ⟨w.heap.size, 0, none⟩ = some (.int .i64 5) ∧ w'.cell? ⟨w.heap.size, 1, none⟩ = some (.int .i64 x.n) ∧ w'.cell? ⟨w.heap.size, 2, none⟩ = some (.int .i64 x.k) ∧ w'.cell? ⟨w.heap.size, 3, none⟩ = some (.string x.name) ∧ w'.cell? ⟨w.heap.size, 4, none⟩ = some (.string x.dest) ∧ w'.cell? ⟨w.heap.size, 5, none⟩ = some x.bv ∧ w'.cell? ⟨w.heap.size, 6, none⟩ = some x.cv ∧ Both p d r w.heap.size x 5 w')
    (first | (refine Both.all ?_; exact hB) | (refine Both.all ?_; assumption))
    (first
      | (go_at_call 36; refine HPW.out.mono ?_; rintro e w1 ⟨rfl, hM, hb1⟩; have hB1 := hM.both; clear HPW)
      | (go_at_call 58; refine (HD.out _ _ hM hb1).mono ?_; rintro e w2 ⟨rfl, hB2, hD2⟩; clear HD))
  all_goals
    go_wp2
    go_ret
    exact ⟨rfl, hD2⟩

end Go.Proofs.Ytipakfdebccchaa
