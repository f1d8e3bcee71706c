/- The document's disk: SyncDir and Sync done. -/
import Derived.Test.YtipakfdebccchaaMS3
namespace Go.Proofs.Ytipakfdebccchaa
open Go.RowKit Go.Maps Go.Sort

theorem entCells_one (l : List (ByteArray × Int)) : ∀ u ∈ entCells l, u.oneCell' = true := by
  intro u hu
  simp [entCells] at hu
  obtain ⟨a, b, _, h | h⟩ := hu <;> subst h <;> rfl

theorem wpList_append_ents {w : World} {ops : Array Oper} {rest : List Oper} {o : Oper} {a : Act} {Q : Exit → Act → World → Prop} (hgd : o.guard = none) (s x : Operand)
    (ho : o.op = .call { callee := .builtin .append, args := #[s, x], argTypes := #[37, 37] })
    (base : Nat) (v : Value) (n : Nat) (xs : List Value) (hs : a.eval s = v) (hown : w.ownsRow base 90 2 v n xs)
    (dv : Value) (base' : Nat) (dir : List (ByteArray × Int)) (hx : a.eval x = dv) (hd : w.ownsRow base' 90 2 dv dir.length (entCells dir)) (hl : n + dir.length ≤ 1000000000) (hbase : base ≤ w.heap.size)
    (h : ∀ c d w', w'.ownsRow base 90 2 (.slice c (n + dir.length) d) (n + dir.length) (xs ++ entCells dir) → w.grownBy w' v.ownBlock → wpList Try.prog ops Q rest (a.put o.dst (.slice c (n + dir.length) d)) w') :
    wpList Try.prog ops Q (o :: rest) a w := by
  obtain ⟨i0, hi0, hz0, hz1, hz2⟩ := info_parts info99
  rcases hd.2 with ⟨rfl, e0⟩ | ⟨g, cap, cur, rfl, _⟩
  · have e : dir = [] := List.eq_nil_of_length_eq_zero e0
    subst e
    obtain ⟨c, d, rfl⟩ := slice_of_row hown
    exact wpList_append_own_none hgd s x 37 ho base 90 i0 2 Try.underlying37 hi0 _ n xs hs hown hx (h c d w (by simpa [entCells] using hown) ⟨rfl, rfl, rfl, Nat.le_refl _, fun _ _ _ => rfl⟩)
  · refine wpList_append_own_at w hgd s x 37 ho base 90 i0 _ 2 24 Try.underlying37 hi0 hz0 hz1 hz2 rfl (by decide) v n xs hs hown ⟨g, 0, none⟩ dir.length cap (entCells dir) hx (entCells_length dir) (hd.cells (g := g) rfl) (entCells_one dir) (by unfold maxLen; omega) (by omega) hbase ?_
    intro v' w' h1 h2 _ _
    obtain ⟨c, d, rfl⟩ := slice_of_row h1
    exact h c d w' h1 h2

section
variable {w : World} {r : Nat} {s : RSt} (h : IsRef w r s)
include h

theorem IsRef.setKept {w2 : World} {v' : Value} {dir' : List (ByteArray × Int)} {base : Nat} (ho : w2.ownsRow base 90 2 v' dir'.length (entCells dir')) (hbs : s.base ≤ base) (hb : Below w.heap.size w w2) :
    IsRef (w2.setCell ⟨r, 3, none⟩ v') r { s with kv := v', kept := dir' } ∧ KT (refS s.base) w (w2.setCell ⟨r, 3, none⟩ v') ∧ RefAt w2 r s.cap s.fv s.dv s.kv s.pv s.qv s.stop s.cnt := by
  have k1 : KT (oneS s.base 41) w w2 := KT.below hb
  have a2 : RefAt w2 r s.cap s.fv s.dv s.kv s.pv s.qv s.stop s.cnt := (hb.block r h.at_.lt).trans h.at_
  have k2 := kt_set a2 h.lo 3 v'
  refine ⟨⟨h.lo, a2.set3 _, k2.ownsRow (k1.ownsRow h.rF (noS rfl)) (noS rfl), k2.ownsRow (k1.ownsRow h.rD (noS rfl)) (noS rfl), row_base (k2.ownsRow ho (noS rfl)) hbs, k2.ownsRow (k1.ownsRow h.rP (noS rfl)) (noS rfl), k2.ownsRow (k1.ownsRow h.rQ (noS rfl)) (noS rfl), fun x hx => k2.rb (k1.rb (h.bytes x hx) (noS rfl)) (noS rfl), h.sep.of (Nat.le_trans k1.size k2.size) rfl rfl⟩, (k1.ref rfl).trans (k2.ref rfl), a2⟩

theorem IsRef.noPend : IsRef (w.setCell ⟨r, 4, none⟩ (.slice none 0 0)) r { s with pv := .slice none 0 0, pend := [] } ∧ KT (refS s.base) w (w.setCell ⟨r, 4, none⟩ (.slice none 0 0)) := by
  have k2 := kt_set h.at_ h.lo 4 (.slice none 0 0)
  exact ⟨⟨h.lo, h.at_.set4 _, k2.ownsRow h.rF (noS rfl), k2.ownsRow h.rD (noS rfl), k2.ownsRow h.rK (noS rfl), World.ownsRow_nil _ _ _ _, k2.ownsRow h.rQ (noS rfl), fun x hx => k2.rb (h.bytes x hx) (noS rfl), h.sep.of k2.size rfl rfl⟩, k2.ref rfl⟩
end

def RA.syncDir (a : RA) : RA := { a with kept := a.dir, pend := [] }

set_option maxRecDepth 100000 in
set_option maxHeartbeats 2000000 in
theorem refSyncDir_done {w : World} {r base : Nat} {a : RA} {st : Int} (hb : Begins w r base a 0 st) (hl : a.dir.length ≤ 1000000000) :
    Calls Try.prog 58 #[.pointer (some ⟨r, 0, none⟩)] w fun e w' => e = .returned (.int .i64 0) ∧ RefIs w' r base a.syncDir ∧ KT (refS base) w w' := by
  unfold Begins at hb
  have HF : Hid (∀ s : RSt, s.abs = a → s.dir.length ≤ 1000000000) := fun s h3 => by
    subst h3
    exact hl
  clear hl
  go_enter Try.func58, Try.ntmps58
  go_wp2_with (first
    | (go_at_call 68; refine hb.mono ?_; rintro e w1 ⟨rfl, ⟨s, hI, hsb, hsa⟩, hk⟩; have hl := HF.out _ hsa; have HSA : Hid (s.abs = a) := hsa; have HSB : Hid (s.base = base) := hsb; clear hsa; rw [← hsb] at hk; clear hsb; obtain ⟨c0, c1, c2, c3, c4, c5, c6, c7, cf⟩ := hI.at_.cells; obtain ⟨x0, x1, x2, x3, x4, x5, x6, x7, xf⟩ := (hI.at_.alloc (.cells #[] 90)).cells)
    | (at_builtin; refine wpList_append_ents rfl _ _ rfl w1.heap.size (.slice (some ⟨w1.heap.size, 0, none⟩) 0 0) 0 [] rfl (World.ownsRow_made w1 #[] 0 (Nat.le_refl _) (Nat.zero_le _) rfl) s.dv s.base s.dir rfl (hI.rD.alloc _) (by omega) (by simp) ?_; intro v1 v2 w2 ho2 hg2; rw [Nat.zero_add, List.nil_append] at ho2; obtain ⟨hI3, hk3, ha3⟩ := hI.setKept ho2 (by have h9 := hI.room; exact h9) ((((Below.refl _ w1).alloc (Nat.le_refl _) _)).grown hg2 (by simp) (fun k hk => by simp [Value.ownBlock] at hk; omega)); obtain ⟨e0, e1, e2, e3, e4, e5, e6, e7, ef⟩ := ha3.cells; obtain ⟨hI4, hk4⟩ := hI3.noPend; clear c0 c1 c2 c3 c4 c5 c6 c7 cf x0 x1 x2 x3 x4 x5 x6 x7 xf; rw [Nat.zero_add]))
  go_ret
  have hkk := (hk.trans hk3).trans hk4
  rw [HSB.out] at hkk
  refine ⟨rfl, RefIs.of hI4 HSB.out HSA.out rfl (fun h => ?_), hkk⟩
  subst h
  rfl

theorem rfCells_set1 (l : List (Value × List UInt8 × Int)) (m : Nat) (hm : m < l.length) (n : Int) : (rfCells l).set (m * 2 + 1) (.int .i64 n) = rfCells (l.set m (l[m].1, l[m].2.1, n)) := by
  induction l generalizing m with
  | nil => simp at hm
  | cons a t ih =>
    have e : rfCells (a :: t) = a.1 :: .int .i64 a.2.2 :: rfCells t := by simp [rfCells, rfCell]
    cases m with
    | zero => rw [e]; simp [rfCells, rfCell]
    | succ m =>
      rw [e, show (m + 1) * 2 + 1 = m * 2 + 1 + 1 + 1 by omega, List.set_cons_succ, List.set_cons_succ, ih m (by simpa using hm)]
      simp [rfCells, rfCell]

theorem IsRef.keepAt {w : World} {r : Nat} {s : RSt} (h : IsRef w r s) {m g c : Nat} (hm : m < s.files.length) (hg : s.fv = .slice (some ⟨g, 0, none⟩) s.files.length c) (n : Int) :
    IsRef (w.setCell ⟨g, m * 2 + 1, none⟩ (.int .i64 n)) r { s with files := s.files.set m (s.files[m].1, s.files[m].2.1, n) } ∧ KT (refS s.base) w (w.setCell ⟨g, m * 2 + 1, none⟩ (.int .i64 n)) := by
  have hgb : s.fv.ownBlock = some g := by rw [hg]; rfl
  have k2 : KT (oneS s.base 93) w (w.setCell ⟨g, m * 2 + 1, none⟩ (.int .i64 n)) := by
    obtain ⟨cs, fr, e⟩ := row_block h.rF hgb
    exact (Kept.refl _ w).setCell (p := ⟨g, m * 2 + 1, none⟩) (fun _ => ⟨_, _, _, e, by simp [oneS, (h.rF.lt g hgb).1]⟩) _
  refine ⟨⟨h.lo, k2.heap h.at_ (noS rfl), ?_, k2.ownsRow h.rD (noS rfl), k2.ownsRow h.rK (noS rfl), k2.ownsRow h.rP (noS rfl), k2.ownsRow h.rQ (noS rfl), ?_, ?_⟩, k2.ref rfl⟩
  · have := ownsRow_set h.rF hgb (i := m * 2 + 1) (by rw [h.rF.1]; omega) (.int .i64 n)
    rw [rfCells_set1 s.files m hm n] at this
    simp only [List.length_set]
    exact this
  · intro x hx
    rcases List.mem_or_eq_of_mem_set hx with hx | rfl
    · exact k2.rb (h.bytes x hx) (noS rfl)
    · exact k2.rb (h.bytes s.files[m] (List.getElem_mem hm)) (noS rfl)
  · refine ⟨fun b hb => Nat.lt_of_lt_of_le (h.sep.1 b hb) k2.size, fun x hx b hb => ?_⟩
    rcases List.mem_or_eq_of_mem_set hx with hx | rfl
    · exact h.sep.2 x hx b hb
    · exact h.sep.2 s.files[m] (List.getElem_mem hm) b hb

def RA.sync (a : RA) (m : Nat) (bs : List UInt8) : RA := { a with files := a.files.set m (bs, bs.length) }

set_option maxRecDepth 100000 in
set_option maxHeartbeats 2000000 in
theorem refSync_done {w : World} {r base : Nat} {a : RA} {st : Int} (hb : Begins w r base a 0 st) (hl : a.dir.length ≤ 1000000000) (hfl : a.files.length ≤ 1000000000) (name : ByteArray) (hs : name.size ≤ maxLen) (hr : rn name = true) (k m : Nat) (hk : k < a.dir.length) (hat : ∀ i, Stands a.dir name i → i = k) (hf : a.dir[k].2 = m) (bs : List UInt8) (n0 : Int) (hm : a.files[m]? = some (bs, n0)) :
    Calls Try.prog 53 #[.pointer (some ⟨r, 0, none⟩), .string name] w fun e w' => e = .returned (.int .i64 0) ∧ RefIs w' r base (a.sync m bs) ∧ KT (refS base) w w' := by
  unfold Begins at hb
  have HF : Hid (∀ w1 s, IsRef w1 r s → s.base = base → s.abs = a → KT (refS base) w w1 → s.dir.length ≤ 1000000000 ∧ k < s.dir.length ∧ s.files.length ≤ 1000000000 ∧ m < s.files.length ∧ (∃ g c, s.dv = .slice (some ⟨g, 0, none⟩) s.dir.length c ∧ w1.cell? ⟨g, k * 2 + 1, none⟩ = some (.int .i64 m)) ∧ (∃ g c ba bc, s.fv = .slice (some ⟨g, 0, none⟩) s.files.length c ∧ w1.cell? ⟨g, m * 2, none⟩ = some (.slice ba bs.length bc) ∧ w1.cell? ⟨g, m * 2 + 1, none⟩ = some (.int .i64 n0) ∧ (∀ i, w1.frozen? ⟨g, i, none⟩ = false) ∧ Hid (RefIs (w1.setCell ⟨g, m * 2 + 1, none⟩ (.int .i64 bs.length)).drew r base (a.sync m bs) ∧ KT (refS base) w (w1.setCell ⟨g, m * 2 + 1, none⟩ (.int .i64 bs.length)).drew)) ∧ Hid (∀ i, Stands s.dir name i → i = k)) := fun w1 s h1 h2 h3 h4 => by
    subst h3
    subst h2
    have hk' : k < s.dir.length := hk
    have hm' : (s.files.map Prod.snd)[m]? = some (bs, n0) := hm
    rw [List.getElem?_map, Option.map_eq_some_iff] at hm'
    obtain ⟨⟨v, x1, x2⟩, hx, hy⟩ := hm'
    simp at hy
    obtain ⟨rfl, rfl⟩ := hy
    obtain ⟨hml, hme⟩ := List.getElem?_eq_some_iff.1 hx
    have hfl' : s.files.length ≤ 1000000000 := by simpa [RSt.abs] using hfl
    refine ⟨hl, hk, hfl', hml, ?_, ?_, hat⟩
    · obtain ⟨g, c, hg⟩ := row_some h1.rD (by omega)
      have := (h1.entry hk' hg).2
      have hf' : s.dir[k].2 = m := hf
      rw [hf'] at this
      exact ⟨g, c, hg, this⟩
    · obtain ⟨g, c, hg⟩ := row_some h1.rF (by omega)
      obtain ⟨y0, y1⟩ := h1.file hml hg
      obtain ⟨oa, oc, ho, _⟩ := (h1.bytes _ (List.getElem_mem hml)).at_.shape
      rw [ho] at y0
      rw [hme] at y0 y1
      refine ⟨g, c, oa, oc, hg, y0, y1, fun i => row_frozen h1.rF (k := g) (by rw [hg]; rfl) i, ?_⟩
      obtain ⟨z1, z2⟩ := h1.keepAt hml hg (x1.length : Int)
      refine ⟨⟨_, z1.drewN 1, rfl, ?_⟩, (h4.trans z2).drewN 1⟩
      simp [RSt.abs, RA.sync, List.map_set, hme]
  clear hat hl hf hk hm hfl
  go_enter Try.func53, Try.ntmps53
  go_wp2_with (first
    | (go_at_call 68; refine hb.mono ?_; rintro e w1 ⟨rfl, ⟨s, hI, hsb, hsa⟩, hkt⟩; obtain ⟨hl, hk, hfl, hml, ⟨g, gc, hg, hgc⟩, ⟨g2, gc2, ba, bc, hg2, y0, y1, hfz, HE⟩, HA⟩ := HF.out _ _ hI hsb hsa hkt; clear hsa hsb hkt; obtain ⟨c0, c1, c2, c3, c4, c5, c6, c7, cf⟩ := hI.at_.cells; rw [hg] at c2; have hD := hI.rD; rw [hg] at hD; rw [hg2] at c1; clear hg hg2)
    | (go_at_call 48; refine (refRight_any name _ hs).mono ?_; rintro e w1 ⟨rfl, rfl⟩; rw [hr])
    | (go_at_call 47; refine (refAt_any _ s.dir name _ _ hD hl).mono ?_; rintro e w2 ⟨⟨i, rfl, hi⟩, rfl⟩; have hi0 := HA.out _ hi; clear hi; subst hi0))
  go_region_law (fail)
  all_goals
    go_wp2
    go_ret
    exact ⟨rfl, HE.out⟩

end Go.Proofs.Ytipakfdebccchaa
