/- Texts that belong together. -/
import Derived.Test.YtipakfdebccchaaMS2
/- The document's disk: Create and Remove done; Rename. -/
namespace Go.Proofs.Ytipakfdebccchaa
open Go.RowKit Go.Maps Go.Sort

/-- .. with other places of its rows. -/
theorem RefIs.of {w : World} {r base : Nat} {s t : RSt} {a b : RA} (h : IsRef w r t) (hb : s.base = base) (hsa : s.abs = a) (hbt : t.base = s.base) (hab : s.abs = a → t.abs = b) : RefIs w r base b := ⟨t, h, hbt.trans hb, hab hsa⟩

def RA.create (a : RA) (name : ByteArray) : RA := { a with files := a.files ++ [([], 0)], dir := setL a.dir name a.files.length, pend := a.pend ++ [(1, ByteArray.empty, name, (a.files.length : Int))] }
def RA.remove (a : RA) (name : ByteArray) : RA := { a with dir := unsetL a.dir name, pend := a.pend ++ [(3, ByteArray.empty, name, 0)] }
def RA.rename (a : RA) (old name : ByteArray) (f : Int) : RA := { a with dir := setL (unsetL a.dir old) name f, pend := a.pend ++ [(2, old, name, f)] }

section
variable {w : World} {r base : Nat} {a : RA} {st : Int} (hb : Begins w r base a 0 st) (hl : a.dir.length ≤ 1000000000) (hp : a.pend.length ≤ 1000000000)
include hb hl hp

set_option maxRecDepth 100000 in
set_option maxHeartbeats 2000000 in
theorem refCreate_done (name : ByteArray) (hs : name.size ≤ maxLen) (hr : rn name = true) (hat : ∀ i, Stands a.dir name i → i < 0) (hf : a.files.length ≤ 1000000000) :
    Calls Try.prog 49 #[.pointer (some ⟨r, 0, none⟩), .string name] w fun e w' => e = .returned (.int .i64 0) ∧ RefIs w' r base (a.create name) ∧ KT (refS base) w w' := by
  unfold Begins at hb
  have HF : Hid (∀ s : RSt, s.abs = a → s.dir.length ≤ 1000000000 ∧ s.files.length ≤ 1000000000 ∧ s.pend.length ≤ 1000000000 ∧ Hid (∀ i, Stands s.dir name i → i < 0)) := fun s h3 => by
    subst h3
    exact ⟨hl, by simpa [RSt.abs] using hf, hp, hat⟩
  clear hat hl hp hf
  obtain ⟨i93, hi93, hz93, hs93, hb93⟩ := info_parts info93
  obtain ⟨i96, hi96, hz96, hs96, hb96⟩ := info_parts info96
  go_enter Try.func49, Try.ntmps49
  go_wp2_with (first
    | (go_at_call 68; refine hb.mono ?_; rintro e w1 ⟨rfl, ⟨s, hI, hsb, hsa⟩, hk⟩; obtain ⟨hl, hf, hp, HA⟩ := HF.out _ hsa; have HSA : Hid (s.abs = a) := hsa; have HSB : Hid (s.base = base) := hsb; clear hsa; rw [← hsb] at hk; clear hsb; obtain ⟨c0, c1, c2, c3, c4, c5, c6, c7, cf⟩ := hI.at_.cells; have hn1 : ((s.files.length + 1 : Nat) : Int) - 1 = (s.files.length : Int) := by omega)
    | (go_at_call 48; refine (refRight_any name _ hs).mono ?_; rintro e w1 ⟨rfl, rfl⟩; rw [hr])
    | (go_at_call 47; refine (refAt_any _ s.dir name _ _ hI.rD hl).mono ?_; rintro e w1 ⟨⟨i, rfl, hi⟩, rfl⟩; have hneg := stands_neg hi (HA.out _ hi); clear hi; subst hneg)
    | (at_builtin; refine wpList_append_own_at _ rfl _ _ 36 rfl s.base 93 i93 _ 2 32 Try.underlying36 hi93 hz93 hs93 hb93 rfl (by decide) s.fv s.files.length (rfCells s.files) rfl (hI.rF.alloc _) ⟨w1.heap.size, 0, none⟩ 1 1 [.slice none 0 0, .int .i64 0] rfl rfl (World.news_of_block (cs := #[.slice none 0 0, .int .i64 0]) (t := 93) (fr := (0, 0)) (heap_alloc_new w1 _)) (by simp [Value.oneCell']) (by unfold maxLen; omega) (by omega) (by have := hI.room; simp; omega) ?_; intro v' w2 hown2 hgrow2 hnil2 hloc2; obtain ⟨hI2, hk2, ha2⟩ := hI.addFile hown2 hgrow2; obtain ⟨va, vc, rfl⟩ := slice_of_row hown2; obtain ⟨d0, d1, d2, d3, d4, d5, d6, d7, df⟩ := ha2.cells; clear c0 c1 c2 c3 c4 c5 c6 c7 cf hnil2 hloc2)
    | (go_at_call 44; refine (refSet_any _ s.dir name _ _ _ hI2.rD hl).mono ?_; rintro e w3 ⟨v3, rfl, hr3, hb3⟩; obtain ⟨v3a, v3c, rfl⟩ := slice_of_row hr3; obtain ⟨hI3, hk3, ha3⟩ := hI2.setDir hr3 (by have h9 := hI2.room; exact h9) hb3; obtain ⟨e0, e1, e2, e3, e4, e5, e6, e7, ef⟩ := ha3.cells; clear d0 d1 d2 d3 d4 d5 d6 d7 df)
    | (at_builtin; refine wpList_append_own_at _ rfl _ _ 38 rfl s.base 85 i96 _ 4 48 Try.underlying38 hi96 hz96 hs96 hb96 rfl (by decide) s.pv s.pend.length (rcCells s.pend) rfl (hI3.rP.alloc _) ⟨w3.heap.size, 0, none⟩ 1 1 [.int .i64 1, .string ByteArray.empty, .string name, .int .i64 s.files.length] rfl rfl (World.news_of_block (cs := #[.int .i64 1, .string ByteArray.empty, .string name, .int .i64 s.files.length]) (t := 85) (fr := (0, 0)) (new_behind w3 _ _ _)) (by simp [Value.oneCell']) (by unfold maxLen; omega) (by omega) (by have h9 := hI3.room; simp [World.setCell] at h9 ⊢; omega) ?_; intro v4 w4 hown4 hgrow4 hnil4 hloc4; obtain ⟨hI4, hk4, ha4⟩ := hI3.addPend (x := (1, ByteArray.empty, name, (s.files.length : Int))) hown4 hgrow4; obtain ⟨v4a, v4c, rfl⟩ := slice_of_row hown4; obtain ⟨f0, f1, f2, f3, f4, f5, f6, f7, ff⟩ := ha4.cells; clear e0 e1 e2 e3 e4 e5 e6 e7 ef hnil4 hloc4))
  go_ret
  have hkk := ((hk.trans hk2).trans hk3).trans hk4
  rw [HSB.out] at hkk
  refine ⟨rfl, RefIs.of hI4 HSB.out HSA.out rfl (fun h => ?_), hkk⟩
  subst h
  simp [RSt.abs, RA.create]

set_option maxRecDepth 100000 in
set_option maxHeartbeats 2000000 in
theorem refRemove_done (name : ByteArray) (hs : name.size ≤ maxLen) (hr : rn name = true) (hat : ∀ i, Stands a.dir name i → 0 ≤ i) :
    Calls Try.prog 57 #[.pointer (some ⟨r, 0, none⟩), .string name] w fun e w' => e = .returned (.int .i64 0) ∧ RefIs w' r base (a.remove name) ∧ KT (refS base) w w' := by
  unfold Begins at hb
  have HF : Hid (∀ s : RSt, s.abs = a → s.dir.length ≤ 1000000000 ∧ s.pend.length ≤ 1000000000 ∧ Hid (∀ i, Stands s.dir name i → 0 ≤ i)) := fun s h3 => by
    subst h3
    exact ⟨hl, hp, hat⟩
  clear hat hl hp
  obtain ⟨i96, hi96, hz96, hs96, hb96⟩ := info_parts info96
  go_enter Try.func57, Try.ntmps57
  go_wp2_with (first
    | (go_at_call 68; refine hb.mono ?_; rintro e w1 ⟨rfl, ⟨s, hI, hsb, hsa⟩, hk⟩; obtain ⟨hl, hp, HA⟩ := HF.out _ hsa; have HSA : Hid (s.abs = a) := hsa; have HSB : Hid (s.base = base) := hsb; clear hsa; rw [← hsb] at hk; clear hsb; obtain ⟨c0, c1, c2, c3, c4, c5, c6, c7, cf⟩ := hI.at_.cells)
    | (go_at_call 48; refine (refRight_any name _ hs).mono ?_; rintro e w1 ⟨rfl, rfl⟩; rw [hr])
    | (go_at_call 47; refine (refAt_any _ s.dir name _ _ hI.rD hl).mono ?_; rintro e w1 ⟨⟨i, rfl, hi⟩, rfl⟩; have hneg := HA.out _ hi; clear hi)
    | (go_at_call 45; refine (refUnset_any _ s.dir name _ _ hI.rD hl).mono ?_; rintro e w3 ⟨v3, rfl, hr3, hb3⟩; obtain ⟨v3a, v3c, rfl⟩ := slice_of_row hr3; obtain ⟨hI3, hk3, ha3⟩ := hI.setDir hr3 (by have h9 := hI.room; exact h9) hb3; obtain ⟨e0, e1, e2, e3, e4, e5, e6, e7, ef⟩ := ha3.cells; clear c0 c1 c2 c3 c4 c5 c6 c7 cf)
    | (at_builtin; refine wpList_append_own_at _ rfl _ _ 38 rfl s.base 85 i96 _ 4 48 Try.underlying38 hi96 hz96 hs96 hb96 rfl (by decide) s.pv s.pend.length (rcCells s.pend) rfl (hI3.rP.alloc _) ⟨w3.heap.size, 0, none⟩ 1 1 [.int .i64 3, .string ByteArray.empty, .string name, .int .i64 0] rfl rfl (World.news_of_block (cs := #[.int .i64 3, .string ByteArray.empty, .string name, .int .i64 0]) (t := 85) (fr := (0, 0)) (new_behind w3 _ _ _)) (by simp [Value.oneCell']) (by unfold maxLen; omega) (by omega) (by have h9 := hI3.room; simp [World.setCell] at h9 ⊢; omega) ?_; intro v4 w4 hown4 hgrow4 hnil4 hloc4; obtain ⟨hI4, hk4, ha4⟩ := hI3.addPend (x := (3, ByteArray.empty, name, 0)) hown4 hgrow4; obtain ⟨v4a, v4c, rfl⟩ := slice_of_row hown4; obtain ⟨f0, f1, f2, f3, f4, f5, f6, f7, ff⟩ := ha4.cells; clear e0 e1 e2 e3 e4 e5 e6 e7 ef hnil4 hloc4))
  all_goals try (exfalso; simp at *; omega)
  go_ret
  have hkk := (hk.trans hk3).trans hk4
  rw [HSB.out] at hkk
  refine ⟨rfl, RefIs.of hI4 HSB.out HSA.out rfl (fun h => ?_), hkk⟩
  subst h
  rfl
end

end Go.Proofs.Ytipakfdebccchaa

/- The document's disk: New, SetCapacity, Stop, Fault, Used. -/
namespace Go.Proofs.Ytipakfdebccchaa
open Go.RowKit Go.Maps Go.Sort

theorem RefIs.drewN {w : World} {r base : Nat} {a : RA} (h : RefIs w r base a) (n : Nat) : RefIs (w.drewN n) r base a := by
  obtain ⟨s, hI, h1, h2⟩ := h
  exact ⟨s, hI.drewN n, h1, h2⟩
theorem RefIs.lt {w : World} {r base : Nat} {a : RA} (h : RefIs w r base a) : base ≤ r ∧ r < w.heap.size := by
  obtain ⟨s, hI, h1, h2⟩ := h
  exact ⟨h1 ▸ hI.lo, hI.at_.lt⟩

/-- Only its own block has turned, and there no row. -/
theorem IsRef.own1 {w w' : World} {r : Nat} {s : RSt} (h : IsRef w r s) (k : Kept (fun k => k = r) w w') {cap stop cnt : Int} (hR : RefAt w' r cap s.fv s.dv s.kv s.pv s.qv stop cnt) : IsRef w' r { s with cap := cap, stop := stop, cnt := cnt } ∧ KT (refS s.base) w w' := by
  have nor : ∀ {base n size : Nat} {e : TypeId} {v : Value} {xs : List Value}, w.ownsRow base e size v n xs → e ≠ 41 → ∀ b, v.ownBlock = some b → ¬ (b = r) := fun ho he b hb e => h.at_.ne_row ho he (e ▸ hb)
  refine ⟨⟨h.lo, hR, k.ownsRow h.rF (nor h.rF (by decide)), k.ownsRow h.rD (nor h.rD (by decide)), k.ownsRow h.rK (nor h.rK (by decide)), k.ownsRow h.rP (nor h.rP (by decide)), k.ownsRow h.rQ (nor h.rQ (by decide)), fun x hx => (h.bytes x hx).kept k (fun b ⟨cs, fr, e1⟩ e2 => ?_), h.sep.of k.size rfl rfl⟩, h.at_.kt h.lo k⟩
  subst e2
  have := h.at_
  unfold RefAt at this
  rw [this] at e1
  simp at e1

def RA.new (n : Int) : RA := ⟨max n 0, -1, 0, [], [], [], [], [], fun _ => False⟩

theorem refNew_is (n : Int) (w : World) :
    Calls Try.prog 6 #[.int .i64 n] w fun e w' => e = .returned (.pointer (some ⟨w.heap.size, 0, none⟩)) ∧ RefIs w' w.heap.size w.heap.size (RA.new n) ∧ Below w.heap.size w w' := by
  refine (refNew n w).mono ?_
  rintro e w' ⟨rfl, hR, hb⟩
  exact ⟨rfl, ⟨⟨w.heap.size, max n 0, -1, 0, .slice none 0 0, .slice none 0 0, .slice none 0 0, .slice none 0 0, .slice none 0 0, [], [], [], [], [], fun _ => False⟩, ⟨Nat.le_refl _, hR, World.ownsRow_nil _ _ _ _, World.ownsRow_nil _ _ _ _, World.ownsRow_nil _ _ _ _, World.ownsRow_nil _ _ _ _, World.ownsRow_nil _ _ _ _, fun x hx => by simp at hx, ⟨fun _ h => h.elim, fun x hx => by simp at hx⟩⟩, rfl, rfl⟩, hb⟩

section
variable {w : World} {r base : Nat} {a : RA} (h : RefIs w r base a)
include h

theorem refSetCapacity_is (n : Int) :
    Calls Try.prog 16 #[.pointer (some ⟨r, 0, none⟩), .int .i64 n] w fun e w' => e = .returned (.tuple #[]) ∧ RefIs w' r base { a with cap := max n 0 } ∧ KT (refS base) w w' := by
  obtain ⟨s, hI, rfl, rfl⟩ := h
  refine (refSetCapacity hI.at_ n).mono ?_
  rintro e w' ⟨rfl, hR, hk⟩
  obtain ⟨h1, h2⟩ := hI.own1 hk hR
  exact ⟨rfl, ⟨_, h1, rfl, rfl⟩, h2⟩

set_option maxRecDepth 100000 in
theorem refStop_is (n : Int) :
    Calls Try.prog 21 #[.pointer (some ⟨r, 0, none⟩), .int .i64 n] w fun e w' => e = .returned (.tuple #[]) ∧ RefIs w' r base { a with stop := max n 0 } ∧ KT (refS base) w w' := by
  obtain ⟨s, hI, rfl, rfl⟩ := h
  have HE : Hid (RefIs (w.setCell ⟨r, 6, none⟩ (.int .i64 (max n 0))) r s.base { s.abs with stop := max n 0 } ∧ KT (refS s.base) w (w.setCell ⟨r, 6, none⟩ (.int .i64 (max n 0)))) := by
    obtain ⟨h1, h2⟩ := hI.own1 ((Kept.refl (fun k => k = r) w).setCell (p := ⟨r, 6, none⟩) (fun _ => rfl) _) (hI.at_.set6 (max n 0))
    exact ⟨⟨_, h1, rfl, rfl⟩, h2⟩
  obtain ⟨c0, c1, c2, c3, c4, c5, c6, c7, cf⟩ := hI.at_.cells
  by_cases hn : n < 0
  · have e : max n 0 = 0 := by omega
    rw [e] at HE
    rw [e]
    go_enter Try.func21, Try.ntmps21
    go_wp2
    go_end0
    exact ⟨rfl, HE.out⟩
  · have e : max n 0 = n := by omega
    rw [e] at HE
    rw [e]
    go_enter Try.func21, Try.ntmps21
    go_wp2
    go_end0
    exact ⟨rfl, HE.out⟩

end

theorem IsRef.addFault {w : World} {r : Nat} {s : RSt} (h : IsRef w r s) {o : Obj} {w2 : World} {v' : Value} {x : Int × Int} (ho : w2.ownsRow s.base 79 2 v' (s.faults.length + 1) (rqCells s.faults ++ [.int .i64 x.1, .int .i64 x.2])) (g : (w.alloc o).grownBy w2 s.qv.ownBlock) :
    IsRef (w2.setCell ⟨r, 5, none⟩ v') r { s with qv := v', faults := s.faults ++ [x] } ∧ KT (refS s.base) w (w2.setCell ⟨r, 5, none⟩ v') ∧ RefAt w2 r s.cap s.fv s.dv s.kv s.pv s.qv s.stop s.cnt := by
  have k1 := kt_grown h.rQ g
  have a2 : RefAt w2 r s.cap s.fv s.dv s.kv s.pv s.qv s.stop s.cnt := k1.heap h.at_ (noS rfl)
  have k2 := kt_set a2 h.lo 5 v'
  refine ⟨⟨h.lo, a2.set5 _, k2.ownsRow (k1.ownsRow h.rF (noS rfl)) (noS rfl), k2.ownsRow (k1.ownsRow h.rD (noS rfl)) (noS rfl), k2.ownsRow (k1.ownsRow h.rK (noS rfl)) (noS rfl), k2.ownsRow (k1.ownsRow h.rP (noS rfl)) (noS rfl), ?_, fun x hx => k2.rb (k1.rb (h.bytes x hx) (noS rfl)) (noS rfl), h.sep.of (Nat.le_trans k1.size k2.size) rfl rfl⟩, (k1.ref rfl).trans (k2.ref rfl), a2⟩
  simp only [rqCells_snoc, List.length_append, List.length_singleton]
  exact k2.ownsRow ho (noS rfl)

set_option maxRecDepth 100000 in
set_option maxHeartbeats 1000000 in
theorem refFault_is {w : World} {r base : Nat} {a : RA} (h : RefIs w r base a) (hq : a.faults.length ≤ 1000000000) (n kd : Int) :
    Calls Try.prog 19 #[.pointer (some ⟨r, 0, none⟩), .int .i64 n, .int .i64 kd] w fun e w' => e = .returned (.tuple #[]) ∧ RefIs w' r base { a with faults := a.faults ++ [(max n 0, kd)] } ∧ KT (refS base) w w' := by
  obtain ⟨s, hI, rfl, rfl⟩ := h
  have hq' : s.faults.length ≤ 1000000000 := hq
  clear hq
  have hrm := hI.room
  obtain ⟨c0, c1, c2, c3, c4, c5, c6, c7, cf⟩ := hI.at_.cells
  obtain ⟨i103, hi103, hz103, hs103, hb103⟩ := info_parts info103
  by_cases hn : n < 0
  · have e : max n 0 = 0 := by omega
    rw [e]
    go_enter Try.func19, Try.ntmps19
    go_wp2_with (at_builtin; refine wpList_append_own_at _ rfl _ _ 39 rfl s.base 79 i103 _ 2 16 Try.underlying39 hi103 hz103 hs103 hb103 rfl (by decide) s.qv s.faults.length (rqCells s.faults) rfl (hI.rQ.alloc _) ⟨w.heap.size, 0, none⟩ 1 1 [.int .i64 0, .int .i64 kd] rfl rfl (World.news_of_block (cs := #[.int .i64 0, .int .i64 kd]) (t := 79) (fr := (0, 0)) (heap_alloc_new w _)) (by simp [Value.oneCell']) (by unfold maxLen; omega) (by omega) (by simp; omega) ?_; intro v4 w4 hown4 hgrow4 hnil4 hloc4; obtain ⟨hI4, hk4, ha4⟩ := hI.addFault (x := (0, kd)) hown4 hgrow4; obtain ⟨v4a, v4c, rfl⟩ := slice_of_row hown4; obtain ⟨f0, f1, f2, f3, f4, f5, f6, f7, ff⟩ := ha4.cells; clear c0 c1 c2 c3 c4 c5 c6 c7 cf hnil4 hloc4)
    go_end0
    exact ⟨rfl, ⟨_, hI4, rfl, rfl⟩, hk4⟩
  · have e : max n 0 = n := by omega
    rw [e]
    go_enter Try.func19, Try.ntmps19
    go_wp2_with (at_builtin; refine wpList_append_own_at _ rfl _ _ 39 rfl s.base 79 i103 _ 2 16 Try.underlying39 hi103 hz103 hs103 hb103 rfl (by decide) s.qv s.faults.length (rqCells s.faults) rfl (hI.rQ.alloc _) ⟨w.heap.size, 0, none⟩ 1 1 [.int .i64 n, .int .i64 kd] rfl rfl (World.news_of_block (cs := #[.int .i64 n, .int .i64 kd]) (t := 79) (fr := (0, 0)) (heap_alloc_new w _)) (by simp [Value.oneCell']) (by unfold maxLen; omega) (by omega) (by simp; omega) ?_; intro v4 w4 hown4 hgrow4 hnil4 hloc4; obtain ⟨hI4, hk4, ha4⟩ := hI.addFault (x := (n, kd)) hown4 hgrow4; obtain ⟨v4a, v4c, rfl⟩ := slice_of_row hown4; obtain ⟨f0, f1, f2, f3, f4, f5, f6, f7, ff⟩ := ha4.cells; clear c0 c1 c2 c3 c4 c5 c6 c7 cf hnil4 hloc4)
    go_end0
    exact ⟨rfl, ⟨_, hI4, rfl, rfl⟩, hk4⟩

/-- The bytes that the names have. -/
def RA.lenAt (a : RA) (i : Int) : Nat := ((a.files[i.toNat]?).map fun x => x.1.length).getD 0
def RA.used (a : RA) : Nat := (a.dir.map fun e => a.lenAt e.2).sum
def RA.whole (a : RA) : Prop := ∀ e, e ∈ a.dir → ∃ m : Nat, e.2 = m ∧ m < a.files.length
theorem RSt.used_abs (s : RSt) : s.abs.used = usedL s.files s.dir := by
  unfold RA.used usedL
  congr 1
  refine List.map_congr_left (fun e _ => ?_)
  simp [RA.lenAt, lenAt, RSt.abs, Option.map_map, Function.comp_def]
theorem RSt.whole_abs {s : RSt} (h : s.abs.whole) : Within_ s.files s.dir := fun e he => by
  obtain ⟨m, h1, h2⟩ := h e he
  exact ⟨m, h1, by simpa [RSt.abs] using h2⟩

theorem refUsed_is {w : World} {r base : Nat} {a : RA} (h : RefIs w r base a) (hw : a.whole) (hl : a.dir.length ≤ 1000000000) (hu : a.used ≤ 1000000000000) :
    Calls Try.prog 30 #[.pointer (some ⟨r, 0, none⟩)] w fun e w' => e = .returned (.int .i64 a.used) ∧ ∃ q, w' = w.drewN q := by
  obtain ⟨s, hI, rfl, rfl⟩ := h
  rw [RSt.used_abs] at hu
  have := refUsed_any hI (RSt.whole_abs hw) hl hu
  rw [← RSt.used_abs] at this
  exact this

end Go.Proofs.Ytipakfdebccchaa
