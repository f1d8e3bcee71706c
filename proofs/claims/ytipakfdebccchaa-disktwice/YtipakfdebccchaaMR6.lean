/- Texts that belong together. -/
import Derived.Test.YtipakfdebccchaaMR5
/- What the document's disk may write, by kinds of blocks; a file is created. -/
namespace Go.Proofs.Ytipakfdebccchaa
open Go.RowKit Go.Maps Go.Sort

/-- A block of cells of one of these kinds. -/
def Ty (S : Nat → TypeId → Bool) (w : World) (k : Nat) : Prop := ∃ cs t fr, w.heap[k]? = some (.cells cs t fr) ∧ S k t = true
/-- Only such blocks have turned. -/
def KT (S : Nat → TypeId → Bool) (w w' : World) : Prop := Kept (Ty S w) w w'

section
variable {S : Nat → TypeId → Bool}
theorem KT.refl (w : World) : KT S w w := Kept.refl _ w
theorem KT.trans {a b c : World} (h : KT S a b) (k : KT S b c) : KT S a c := by
  refine Kept.trans h k (fun i hi ht => ?_)
  by_cases hn : Ty S a i
  · exact hn
  · obtain ⟨cs, t, fr, e, e'⟩ := ht
    exact ⟨cs, t, fr, by rw [← h.block i hi hn]; exact e, e'⟩
theorem KT.of {a b : World} {O : Nat → Prop} (h : Kept O a b) (hO : ∀ i, i < a.heap.size → O i → Ty S a i) : KT S a b := Kept.mono h hO
theorem KT.size {a b : World} (h : KT S a b) : a.heap.size ≤ b.heap.size := Kept.size h
theorem KT.below {a b : World} (h : Below a.heap.size a b) : KT S a b := (Kept.refl _ a).below h
theorem KT.ownsRow {w w' : World} (h : KT S w w') {base : Nat} {e : TypeId} {size : Nat} {v : Value} {n : Nat} {xs : List Value} (ho : w.ownsRow base e size v n xs) (he : ∀ k, S k e = false) : w'.ownsRow base e size v n xs :=
  Kept.ownsRow h ho (fun k hk ⟨cs, t, fr, e1, e2⟩ => by
    obtain ⟨cs', fr', h2⟩ := row_block ho hk
    rw [h2] at e1
    simp at e1
    rw [← e1.2.1, he] at e2
    cases e2)
theorem KT.ownsMap {H : Type} {w w' : World} (h : KT S w w') {k : TypeId} {R : Value → Option (DataW H × List MemPlace)} {b n : Nat} {D : DataW H} (ho : w.ownsMap Try.prog k R b n D) : w'.ownsMap Try.prog k R b n D :=
  Kept.ownsMap h ho (fun ⟨cs, t, fr, e1, e2⟩ => by
    obtain ⟨es, clock, hh, _⟩ := ho
    rw [hh] at e1
    cases e1)
theorem KT.heap {w w' : World} (h : KT S w w') {k : Nat} {cs : Array Value} {t : TypeId} {fr : Nat × Nat} (ho : w.heap[k]? = some (.cells cs t fr)) (ht : ∀ k, S k t = false) : w'.heap[k]? = some (.cells cs t fr) :=
  Kept.heap h ho (fun ⟨cs', t', fr', e1, e2⟩ => by
    rw [ho] at e1
    simp at e1
    rw [← e1.2.1, ht] at e2
    cases e2)
theorem KT.rb {w w' : World} (h : KT S w w') {v : Value} {bs : List UInt8} (hb : RB w v bs) (ht : ∀ k, S k 5 = false) : RB w' v bs :=
  hb.kept h (fun b ⟨cs, fr, e⟩ ⟨cs', t', fr', e1, e2⟩ => by
    rw [e] at e1
    simp at e1
    rw [← e1.2.1, ht] at e2
    cases e2)
theorem KT.mono {S' : Nat → TypeId → Bool} {a b : World} (h : KT S a b) (hS : ∀ k t, S k t = true → S' k t = true) : KT S' a b := Kept.mono h (fun k _ ⟨cs, t, fr, e1, e2⟩ => ⟨cs, t, fr, e1, hS k t e2⟩)
end

/-- The types of the document's disk's blocks: itself, its files, what pends, its faults. -/
def refT (t : TypeId) : Bool := t == 41 || t == 93 || t == 85 || t == 79
/-- .. from a block on. -/
def refS (base k : Nat) (t : TypeId) : Bool := decide (base ≤ k) && refT t
/-- Blocks of one type, from a block on. -/
def oneS (base : Nat) (e : TypeId) (k : Nat) (t : TypeId) : Bool := decide (base ≤ k) && t == e

theorem noS {base : Nat} {e t : TypeId} (h : (t == e) = false) : ∀ k, oneS base e k t = false := fun k => by simp [oneS, h]
theorem noR {base : Nat} {t : TypeId} (h : refT t = false) : ∀ k, refS base k t = false := fun k => by simp [refS, h]
theorem KT.toBelow {base : Nat} {a b : World} {B : Nat} (h : KT (refS base) a b) (h1 : B ≤ a.heap.size) (h2 : B ≤ base) : Below B a b := Kept.toBelow h h1 (fun i ⟨cs, t, fr, _, e⟩ => by
  simp [refS] at e
  omega)

theorem RefAt.kt {w : World} {r : Nat} {cap : Int} {fv dv kv pv qv : Value} {stop cnt : Int} (h : RefAt w r cap fv dv kv pv qv stop cnt) {w' : World} {base : Nat} (hb : base ≤ r) (k : Kept (fun k => k = r) w w') : KT (refS base) w w' := KT.of k (fun i _ e => by subst e; exact ⟨_, _, _, h, by simp [refS, refT, hb]⟩)
theorem RefAt.alloc {w : World} {r : Nat} {cap : Int} {fv dv kv pv qv : Value} {stop cnt : Int} (h : RefAt w r cap fv dv kv pv qv stop cnt) (o : Obj) : RefAt (w.alloc o) r cap fv dv kv pv qv stop cnt :=
  (Below.heap_alloc w o r h.lt).trans h

theorem KT.ref {base : Nat} {e : TypeId} {a b : World} (h : KT (oneS base e) a b) (he : refT e = true) : KT (refS base) a b := by
  refine h.mono ?_
  intro k t ht
  simp [oneS] at ht
  simp [refS, ht.1, ht.2, he]
theorem kt_grown {w w2 : World} {base n size : Nat} {e : TypeId} {v : Value} {xs : List Value} {o : Obj} (ho : w.ownsRow base e size v n xs) (g : (w.alloc o).grownBy w2 v.ownBlock) : KT (oneS base e) w w2 :=
  (((Kept.refl (Ty (oneS base e) w) w).alloc o).grown g (fun k _ hk => by
    obtain ⟨cs, fr, h⟩ := row_block ho hk
    exact ⟨_, _, _, h, by simp [oneS, (ho.lt k hk).1]⟩))
theorem kt_set {w : World} {r : Nat} {cap : Int} {fv dv kv pv qv : Value} {stop cnt : Int} (h : RefAt w r cap fv dv kv pv qv stop cnt) {base : Nat} (hb : base ≤ r) (i : Nat) (u : Value) : KT (oneS base 41) w (w.setCell ⟨r, i, none⟩ u) :=
  (Kept.refl _ w).setCell (p := ⟨r, i, none⟩) (fun _ => ⟨_, _, _, h, by simp [oneS, hb]⟩) u

theorem rfCells_snoc (l : List (Value × List UInt8 × Int)) (x : Value × List UInt8 × Int) : rfCells (l ++ [x]) = rfCells l ++ [x.1, .int .i64 x.2.2] := by simp [rfCells, rfCell]
theorem rcCells_snoc (l : List (Int × ByteArray × ByteArray × Int)) (x : Int × ByteArray × ByteArray × Int) : rcCells (l ++ [x]) = rcCells l ++ [.int .i64 x.1, .string x.2.1, .string x.2.2.1, .int .i64 x.2.2.2] := by simp [rcCells, rcCell]
theorem rqCells_snoc (l : List (Int × Int)) (x : Int × Int) : rqCells (l ++ [x]) = rqCells l ++ [.int .i64 x.1, .int .i64 x.2] := by simp [rqCells, rqCell]

theorem row_base {w : World} {base base' n size : Nat} {e : TypeId} {v : Value} {xs : List Value} (h : w.ownsRow base e size v n xs) (hb : base' ≤ base) : w.ownsRow base' e size v n xs := by
  refine ⟨h.1, ?_⟩
  rcases h.2 with h | ⟨g, cap, cur, h1, h2, h3⟩
  · exact Or.inl h
  · exact Or.inr ⟨g, cap, cur, h1, Nat.le_trans hb h2, h3⟩

section
variable {w : World} {r : Nat} {s : RSt} (h : IsRef w r s)
include h

theorem IsRef.addFile {o : Obj} {w2 : World} {v' : Value} (ho : w2.ownsRow s.base 93 2 v' (s.files.length + 1) (rfCells s.files ++ [.slice none 0 0, .int .i64 0])) (g : (w.alloc o).grownBy w2 s.fv.ownBlock) :
    IsRef (w2.setCell ⟨r, 1, none⟩ v') r { s with fv := v', files := s.files ++ [(.slice none 0 0, [], 0)] } ∧ KT (refS s.base) w (w2.setCell ⟨r, 1, none⟩ v') ∧ RefAt w2 r s.cap s.fv s.dv s.kv s.pv s.qv s.stop s.cnt := by
  have k1 := kt_grown h.rF g
  have a2 : RefAt w2 r s.cap s.fv s.dv s.kv s.pv s.qv s.stop s.cnt := k1.heap h.at_ (noS rfl)
  have k2 := kt_set a2 h.lo 1 v'
  refine ⟨⟨h.lo, a2.set1 _, ?_, k2.ownsRow (k1.ownsRow h.rD (noS rfl)) (noS rfl), k2.ownsRow (k1.ownsRow h.rK (noS rfl)) (noS rfl), k2.ownsRow (k1.ownsRow h.rP (noS rfl)) (noS rfl), k2.ownsRow (k1.ownsRow h.rQ (noS rfl)) (noS rfl), ?_, ?_⟩, (k1.ref rfl).trans (k2.ref rfl), a2⟩
  · simp only [rfCells_snoc, List.length_append, List.length_singleton]
    exact k2.ownsRow ho (noS rfl)
  · intro x hx
    rcases List.mem_append.1 hx with hx | hx
    · exact k2.rb (k1.rb (h.bytes x hx) (noS rfl)) (noS rfl)
    · simp at hx
      subst hx
      exact ⟨Or.inl ⟨rfl, rfl⟩, fun b hb => by cases hb⟩
  · refine ⟨fun b hb => Nat.lt_of_lt_of_le (h.sep.1 b hb) (Nat.le_trans k1.size k2.size), fun x hx b hb => ?_⟩
    rcases List.mem_append.1 hx with hx | hx
    · exact h.sep.2 x hx b hb
    · simp at hx
      subst hx
      cases hb

theorem IsRef.setDir {w2 : World} {v' : Value} {dir' : List (ByteArray × Int)} {base : Nat} (ho : w2.ownsRow base 90 2 v' dir'.length (entCells dir')) (hbs : s.base ≤ base) (hb : Below w.heap.size w w2) :
    IsRef (w2.setCell ⟨r, 2, none⟩ v') r { s with dv := v', dir := dir' } ∧ KT (refS s.base) w (w2.setCell ⟨r, 2, none⟩ v') ∧ RefAt w2 r s.cap s.fv s.dv s.kv s.pv s.qv s.stop s.cnt := by
  have k1 : KT (oneS s.base 41) w w2 := KT.below hb
  have a2 : RefAt w2 r s.cap s.fv s.dv s.kv s.pv s.qv s.stop s.cnt := (hb.block r h.at_.lt).trans h.at_
  have k2 := kt_set a2 h.lo 2 v'
  refine ⟨⟨h.lo, a2.set2 _, k2.ownsRow (k1.ownsRow h.rF (noS rfl)) (noS rfl), row_base (k2.ownsRow ho (noS rfl)) hbs, k2.ownsRow (k1.ownsRow h.rK (noS rfl)) (noS rfl), k2.ownsRow (k1.ownsRow h.rP (noS rfl)) (noS rfl), k2.ownsRow (k1.ownsRow h.rQ (noS rfl)) (noS rfl), fun x hx => k2.rb (k1.rb (h.bytes x hx) (noS rfl)) (noS rfl), h.sep.of (Nat.le_trans k1.size k2.size) rfl rfl⟩, (k1.ref rfl).trans (k2.ref rfl), a2⟩

theorem IsRef.addPend {o : Obj} {w2 : World} {v' : Value} {x : Int × ByteArray × ByteArray × Int} (ho : w2.ownsRow s.base 85 4 v' (s.pend.length + 1) (rcCells s.pend ++ [.int .i64 x.1, .string x.2.1, .string x.2.2.1, .int .i64 x.2.2.2])) (g : (w.alloc o).grownBy w2 s.pv.ownBlock) :
    IsRef (w2.setCell ⟨r, 4, none⟩ v') r { s with pv := v', pend := s.pend ++ [x] } ∧ KT (refS s.base) w (w2.setCell ⟨r, 4, none⟩ v') ∧ RefAt w2 r s.cap s.fv s.dv s.kv s.pv s.qv s.stop s.cnt := by
  have k1 := kt_grown h.rP g
  have a2 : RefAt w2 r s.cap s.fv s.dv s.kv s.pv s.qv s.stop s.cnt := k1.heap h.at_ (noS rfl)
  have k2 := kt_set a2 h.lo 4 v'
  refine ⟨⟨h.lo, a2.set4 _, k2.ownsRow (k1.ownsRow h.rF (noS rfl)) (noS rfl), k2.ownsRow (k1.ownsRow h.rD (noS rfl)) (noS rfl), k2.ownsRow (k1.ownsRow h.rK (noS rfl)) (noS rfl), ?_, k2.ownsRow (k1.ownsRow h.rQ (noS rfl)) (noS rfl), fun x hx => k2.rb (k1.rb (h.bytes x hx) (noS rfl)) (noS rfl), h.sep.of (Nat.le_trans k1.size k2.size) rfl rfl⟩, (k1.ref rfl).trans (k2.ref rfl), a2⟩
  simp only [rcCells_snoc, List.length_append, List.length_singleton]
  exact k2.ownsRow ho (noS rfl)
end

theorem stands_neg {dir : List (ByteArray × Int)} {name : ByteArray} {i : Int} (h : Stands dir name i) (hi : i < 0) : i = -1 := by
  rcases h with ⟨k, _, e, _⟩ | ⟨e, _⟩
  · omega
  · exact e

theorem new_behind (w : World) (a : Addr) (u : Value) (o : Obj) : ((w.setCell a u).alloc o).heap[w.heap.size]? = some o := by
  have h := heap_alloc_new (w.setCell a u) o
  have e : (w.setCell a u).heap.size = w.heap.size := by simp [World.setCell]
  rw [e] at h
  exact h

set_option maxRecDepth 100000 in
set_option maxHeartbeats 2000000 in
/-- Create of a right name that is not there, the operation not refused. -/
theorem refCreate_new {w : World} {r : Nat} {s : RSt} {st : Int} (name : ByteArray) (hb : Calls Try.prog 68 #[.pointer (some ⟨r, 0, none⟩)] w fun e w' => e = .returned (.tuple #[.int .i64 0, .int .i64 st]) ∧ IsRef w' r s ∧ KT (refS s.base) w w')
    (hs : name.size ≤ maxLen) (hr : rn name = true) (hat : ∀ i, Stands s.dir name i → i < 0) (hl : s.dir.length ≤ 1000000000) (hf : s.files.length ≤ 1000000000) (hp : s.pend.length ≤ 1000000000) :
    Calls Try.prog 49 #[.pointer (some ⟨r, 0, none⟩), .string name] w fun e w' => e = .returned (.int .i64 0) ∧ ∃ fv' dv' pv',
      IsRef w' r { s with fv := fv', dv := dv', pv := pv', files := s.files ++ [(.slice none 0 0, [], 0)], dir := setL s.dir name s.files.length, pend := s.pend ++ [(1, ByteArray.empty, name, (s.files.length : Int))] } ∧ KT (refS s.base) w w' := by
  have HA : Hid (∀ i, Stands s.dir name i → i < 0) := hat
  clear hat
  obtain ⟨i93, hi93, hz93, hs93, hb93⟩ := info_parts info93
  obtain ⟨i96, hi96, hz96, hs96, hb96⟩ := info_parts info96
  have hn1 : ((s.files.length + 1 : Nat) : Int) - 1 = (s.files.length : Int) := by omega
  go_enter Try.func49, Try.ntmps49
  go_wp2_with (first
    | (go_at_call 68; refine hb.mono ?_; rintro e w1 ⟨rfl, hI, hk⟩; obtain ⟨c0, c1, c2, c3, c4, c5, c6, c7, cf⟩ := hI.at_.cells)
    | (go_at_call 48; refine (refRight_any name _ hs).mono ?_; rintro e w1 ⟨rfl, rfl⟩; rw [hr])
    | (go_at_call 47; refine (refAt_any _ s.dir name _ _ hI.rD hl).mono ?_; rintro e w1 ⟨⟨i, rfl, hi⟩, rfl⟩; have hneg := stands_neg hi (HA.out _ hi); clear hi; subst hneg)
    | (at_builtin; refine wpList_append_own_at _ rfl _ _ 36 rfl s.base 93 i93 _ 2 32 Try.underlying36 hi93 hz93 hs93 hb93 rfl (by decide) s.fv s.files.length (rfCells s.files) rfl (hI.rF.alloc _) ⟨w1.heap.size, 0, none⟩ 1 1 [.slice none 0 0, .int .i64 0] rfl rfl (World.news_of_block (cs := #[.slice none 0 0, .int .i64 0]) (t := 93) (fr := (0, 0)) (heap_alloc_new w1 _)) (by simp [Value.oneCell']) (by unfold maxLen; omega) (by omega) (by have := hI.room; simp; omega) ?_; intro v' w2 hown2 hgrow2 hnil2 hloc2; obtain ⟨hI2, hk2, ha2⟩ := hI.addFile hown2 hgrow2; obtain ⟨va, vc, rfl⟩ := slice_of_row hown2; obtain ⟨d0, d1, d2, d3, d4, d5, d6, d7, df⟩ := ha2.cells; clear c0 c1 c2 c3 c4 c5 c6 c7 cf hnil2 hloc2)
    | (go_at_call 44; refine (refSet_any _ s.dir name _ _ _ hI2.rD hl).mono ?_; rintro e w3 ⟨v3, rfl, hr3, hb3⟩; obtain ⟨v3a, v3c, rfl⟩ := slice_of_row hr3; obtain ⟨hI3, hk3, ha3⟩ := hI2.setDir hr3 (by have h9 := hI2.room; exact h9) hb3; obtain ⟨e0, e1, e2, e3, e4, e5, e6, e7, ef⟩ := ha3.cells; clear d0 d1 d2 d3 d4 d5 d6 d7 df)
    | (at_builtin; refine wpList_append_own_at _ rfl _ _ 38 rfl s.base 85 i96 _ 4 48 Try.underlying38 hi96 hz96 hs96 hb96 rfl (by decide) s.pv s.pend.length (rcCells s.pend) rfl (hI3.rP.alloc _) ⟨w3.heap.size, 0, none⟩ 1 1 [.int .i64 1, .string ByteArray.empty, .string name, .int .i64 s.files.length] rfl rfl (World.news_of_block (cs := #[.int .i64 1, .string ByteArray.empty, .string name, .int .i64 s.files.length]) (t := 85) (fr := (0, 0)) (new_behind w3 _ _ _)) (by simp [Value.oneCell']) (by unfold maxLen; omega) (by omega) (by have h9 := hI3.room; simp [World.setCell] at h9 ⊢; omega) ?_; intro v4 w4 hown4 hgrow4 hnil4 hloc4; obtain ⟨hI4, hk4, ha4⟩ := hI3.addPend (x := (1, ByteArray.empty, name, (s.files.length : Int))) hown4 hgrow4; obtain ⟨v4a, v4c, rfl⟩ := slice_of_row hown4; obtain ⟨f0, f1, f2, f3, f4, f5, f6, f7, ff⟩ := ha4.cells; clear e0 e1 e2 e3 e4 e5 e6 e7 ef hnil4 hloc4))
  go_ret
  have hkk := ((hk.trans hk2).trans hk3).trans hk4
  first | exact ⟨⟨_, _, _, hI4⟩, hkk⟩ | exact ⟨rfl, ⟨_, _, _, hI4⟩, hkk⟩ | exact ⟨rfl, _, _, _, hI4, hkk⟩

end Go.Proofs.Ytipakfdebccchaa

/- How many bytes the document's disk has. -/
namespace Go.Proofs.Ytipakfdebccchaa
open Go.RowKit Go.Maps Go.Sort

def lenAt (files : List (Value × List UInt8 × Int)) (i : Int) : Nat := ((files[i.toNat]?).map fun x => x.2.1.length).getD 0
def usedL (files : List (Value × List UInt8 × Int)) (dir : List (ByteArray × Int)) : Nat := (dir.map fun e => lenAt files e.2).sum
theorem usedL_take (files : List (Value × List UInt8 × Int)) (dir : List (ByteArray × Int)) (k : Nat) (hk : k < dir.length) : usedL files (dir.take (k + 1)) = usedL files (dir.take k) + lenAt files dir[k].2 := by
  unfold usedL
  rw [List.take_succ_eq_append_getElem hk, List.map_append, List.sum_append]
  simp
theorem usedL_le (files : List (Value × List UInt8 × Int)) (dir : List (ByteArray × Int)) (k : Nat) : usedL files (dir.take k) ≤ usedL files dir := by
  unfold usedL
  conv => rhs; rw [← List.take_append_drop k dir, List.map_append, List.sum_append]
  omega

/-- Every entry names a file that is there. -/
def Within_ (files : List (Value × List UInt8 × Int)) (dir : List (ByteArray × Int)) : Prop := ∀ e, e ∈ dir → ∃ m : Nat, e.2 = m ∧ m < files.length

theorem row_some {w : World} {base n size : Nat} {e : TypeId} {v : Value} {xs : List Value} (ho : w.ownsRow base e size v n xs) (h : 0 < n) : ∃ g c, v = .slice (some ⟨g, 0, none⟩) n c := by
  rcases ho.2 with ⟨_, e0⟩ | ⟨g, cap, cur, e, _⟩
  · omega
  · exact ⟨g, cap, e⟩

theorem IsRef.file {w : World} {r : Nat} {s : RSt} (h : IsRef w r s) {m : Nat} (hm : m < s.files.length) {g c : Nat} (hg : s.fv = .slice (some ⟨g, 0, none⟩) s.files.length c) :
    w.cell? ⟨g, m * 2, none⟩ = some s.files[m].1 ∧ w.cell? ⟨g, m * 2 + 1, none⟩ = some (.int .i64 s.files[m].2.2) := by
  have hc := h.rF.cells (g := g) (by rw [hg]; rfl)
  have h0 := hc (m * 2 + 0) s.files[m].1 (flat_at rfCell 2 (fun _ => rfl) s.files m hm 0 (by omega))
  have h1 := hc (m * 2 + 1) (.int .i64 s.files[m].2.2) (flat_at rfCell 2 (fun _ => rfl) s.files m hm 1 (by omega))
  rw [Addr.add_lit, Nat.zero_add] at h0 h1
  exact ⟨h0, h1⟩
theorem IsRef.entry {w : World} {r : Nat} {s : RSt} (h : IsRef w r s) {m : Nat} (hm : m < s.dir.length) {g c : Nat} (hg : s.dv = .slice (some ⟨g, 0, none⟩) s.dir.length c) :
    w.cell? ⟨g, m * 2, none⟩ = some (.string s.dir[m].1) ∧ w.cell? ⟨g, m * 2 + 1, none⟩ = some (.int .i64 s.dir[m].2) := by
  have hc := h.rD.cells (g := g) (by rw [hg]; rfl)
  have h0 := hc _ _ (entCells_at s.dir m hm).1
  have h1 := hc _ _ (entCells_at s.dir m hm).2
  rw [Addr.add_lit, Nat.zero_add] at h0 h1
  exact ⟨h0, h1⟩

set_option maxRecDepth 100000 in
set_option maxHeartbeats 2000000 in
theorem refUsed_any {w : World} {r : Nat} {s : RSt} (h : IsRef w r s) (hw : Within_ s.files s.dir) (hl : s.dir.length ≤ 1000000000) (hu : usedL s.files s.dir ≤ 1000000000000) :
    Calls Try.prog 30 #[.pointer (some ⟨r, 0, none⟩)] w fun e w' => e = .returned (.int .i64 (usedL s.files s.dir)) ∧ ∃ q, w' = w.drewN q := by
  obtain ⟨c0, c1, c2, c3, c4, c5, c6, c7, cf⟩ := h.at_.cells
  obtain ⟨da, dc, hdv⟩ := slice_of_row h.rD
  have HD : Hid (s.dv = .slice da s.dir.length dc) := hdv
  rw [hdv] at c2
  clear hdv
  go_enter Try.func30, Try.ntmps30
  go_wp2
  go_loopw [3, 4] (fun n i wr => ∃ k q : Nat, k ≤ s.dir.length ∧ i = .int .i64 k ∧ n = .int .i64 (usedL s.files (s.dir.take k)) ∧ wr = w.drewN q) (fun _ i _ => s.dir.length - (intOf i).toNat)
  case atStart => exact ⟨0, 0, Nat.zero_le _, rfl, rfl, rfl⟩
  case round =>
    obtain ⟨k, q, hk, rfl, rfl, rfl⟩ := hrel
    by_cases hlt : k < s.dir.length
    · obtain ⟨g, c, hg⟩ := row_some h.rD (by omega)
      have e1 := HD.out
      rw [hg] at e1
      simp at e1
      obtain ⟨rfl, rfl⟩ := e1
      obtain ⟨m, hm, hml⟩ := hw _ (List.getElem_mem hlt)
      obtain ⟨g2, cc2, hg2⟩ := row_some h.rF (by omega)
      obtain ⟨x0, x1⟩ := h.entry hlt hg
      obtain ⟨y0, y1⟩ := h.file hml hg2
      obtain ⟨va, vc, hv, _⟩ := (h.bytes _ (List.getElem_mem hml)).at_.shape
      rw [hv] at y0
      rw [hm] at x1
      rw [hg2] at c1
      have HS := usedL_take s.files s.dir k hlt
      have hle := usedL_le s.files s.dir (k + 1)
      have hLA : lenAt s.files s.dir[k].2 = s.files[m].2.1.length := by
        unfold lenAt
        rw [hm]
        simp [hml]
      rw [hLA] at HS
      have HS' : Hid (usedL s.files (s.dir.take (k + 1)) = usedL s.files (s.dir.take k) + s.files[m].2.1.length) := HS
      clear hLA hv hm
      rw [HS] at hle
      clear HS
      generalize s.files[m].2.1.length = bl at *
      generalize usedL s.files (s.dir.take k) = ul at *
      go_wp2
      go_quiet (fail)
      go_wp2
      go_round
      case rel => exact ⟨k + 1, q + nq, by omega, by go_num, by rw [HS'.out]; go_num, by first | rfl | rw [World.drewN_drewN]⟩
      case measure => simp [intOf]; omega
    · have e : k = s.dir.length := by omega
      subst e
      rw [List.take_length]
      go_wp2
      go_ret
      exact ⟨rfl, q, rfl⟩

end Go.Proofs.Ytipakfdebccchaa
