/- Texts that belong together. -/
import Derived.Test.YtipakfdebccchaaMR6
import Derived.Deep.RegionLaw
/- The document's disk: bytes at a file's end. -/
namespace Go.Proofs.Ytipakfdebccchaa
open Go.RowKit Go.Maps Go.Sort

theorem run_append_bytes (w : World) (ty : TypeId) (base : Nat) (v : Value) (n : Nat) (xs : List Value) (hown : w.ownsRow base 5 1 v n xs) (xv : Value) (nw : List UInt8) (hb : BytesAt w xv nw) (hl : n + nw.length ≤ 1000000000000) (hbase : base ≤ w.heap.size) :
    ∃ v' w', (Builtin.append_ #[31, 31] ty #[v, xv]).run Try.prog w = .ok v' w' ∧ w'.ownsRow base 5 1 v' (n + nw.length) (xs ++ byteVals nw) ∧ w.grownBy w' v.ownBlock ∧ (v'.ownBlock = v.ownBlock ∨ v'.ownBlock = some w.heap.size) := by
  obtain ⟨i0, hi0, hz0, hz1, hz2⟩ := info_parts info5
  rcases hb with ⟨rfl, rfl⟩ | ⟨ad, c, rfl, _, _, hcell⟩
  · exact ⟨v, w, run_append_owned_none (P := Try.prog) (w := w) base 31 ty 5 i0 1 Try.underlying31 hi0 v n xs hown, by simpa [byteVals] using hown, ⟨rfl, rfl, rfl, Nat.le_refl _, fun _ _ _ => rfl⟩, Or.inl rfl⟩
  · obtain ⟨v', w', hr, h2, h3, _, h5⟩ := run_append_own_at (P := Try.prog) w base 31 ty 5 i0 (.int .u8 0) 1 1 Try.underlying31 hi0 hz0 hz1 hz2 rfl (by decide) v n xs hown ad nw.length c (byteVals nw) (by rw [byteVals_length]; omega) hcell (byteVals_one nw) (by unfold maxLen; omega) (by omega) hbase
    exact ⟨v', w', hr, h2, h3, h5⟩

theorem step_append_bytes (w : World) {ops : Array Oper} {o : Oper} {a : Act} {K : Act → World → Prop} {Q : Exit → Act → World → Prop} {E : Prop} (hgd : o.guard = none) (s x : Operand)
    (ho : o.op = .call { callee := .builtin .append, args := #[s, x], argTypes := #[31, 31] }) (base : Nat) (v : Value) (n : Nat) (xs : List Value) (hs : a.eval s = v) (hown : w.ownsRow base 5 1 v n xs)
    (xv : Value) (nw : List UInt8) (hx : a.eval x = xv) (hb : BytesAt w xv nw) (hl : n + nw.length ≤ 1000000000000) (hbase : base ≤ w.heap.size)
    (h : ∀ c d w', w'.ownsRow base 5 1 (.slice c (n + nw.length) d) (n + nw.length) (xs ++ byteVals nw) → w.grownBy w' v.ownBlock → ((Value.slice c (n + nw.length) d).ownBlock = v.ownBlock ∨ (Value.slice c (n + nw.length) d).ownBlock = some w.heap.size) → K (a.put o.dst (.slice c (n + nw.length) d)) w') :
    if Region.wanted o (yielded ops a.tmps) = true then Oper.wp Try.prog o a w K Q else E := by
  have hw : Region.wanted o (yielded ops a.tmps) = true := by simp [Region.wanted, hgd]
  rw [if_pos hw]
  obtain ⟨v', w', hr, h2, h3, h4⟩ := run_append_bytes w o.type base v n xs hown xv nw hb hl hbase
  obtain ⟨c, d, rfl⟩ := slice_of_row h2
  unfold Oper.wp execOp
  simp only [ho, resolve, invoke, builtin, Sem.run_bind, Sem.run_pure, Result.andThen_ok, List.map_toArray, List.map_cons, List.map_nil, hs, hx, hr]
  exact h c d w' h2 h3 h4

theorem KT.below_rows {S : Nat → TypeId → Bool} {w w' : World} (_k : KT S w w') {base : Nat} {e : TypeId} {size : Nat} {v : Value} {n : Nat} {xs : List Value} (ho : w.ownsRow base e size v n xs) (hb : Below w.heap.size w w') : w'.ownsRow base e size v n xs :=
  ((Kept.refl (fun _ => False) w).below hb).ownsRow ho (fun _ _ e => e)

theorem row_frozen {w : World} {base n size : Nat} {e : TypeId} {v : Value} {xs : List Value} (ho : w.ownsRow base e size v n xs) {k : Nat} (hk : v.ownBlock = some k) (i : Nat) : w.frozen? ⟨k, i, none⟩ = false := by
  rcases ho.2 with ⟨rfl, _⟩ | ⟨g, cap, cur, rfl, _, hg, _⟩
  · cases hk
  · simp [Value.ownBlock] at hk
    subst hk
    exact frozen_of_heap hg

/-- One file's record is turned. -/
theorem rfCells_set (l : List (Value × List UInt8 × Int)) (m : Nat) (hm : m < l.length) (v : Value) (bs : List UInt8) : (rfCells l).set (m * 2) v = rfCells (l.set m (v, bs, l[m].2.2)) := by
  induction l generalizing m with
  | nil => simp at hm
  | cons a t ih =>
    have e : rfCells (a :: t) = a.1 :: .int .i64 a.2.2 :: rfCells t := by simp [rfCells, rfCell]
    cases m with
    | zero => rw [e]; simp [rfCells, rfCell]
    | succ m =>
      rw [e, show (m + 1) * 2 = m * 2 + 1 + 1 by omega, List.set_cons_succ, List.set_cons_succ, ih m (by simpa using hm)]
      simp [rfCells, rfCell]

/-- A cell of an owned row is turned. -/
theorem ownsRow_set {w : World} {base : Nat} {e : TypeId} {size n : Nat} {v : Value} {xs : List Value} (h : w.ownsRow base e size v n xs) {g : Nat} (hg : v.ownBlock = some g) {i : Nat} (_hi : i < xs.length) (u : Value) : (w.setCell ⟨g, i, none⟩ u).ownsRow base e size v n (xs.set i u) := by
  rcases h.2 with ⟨rfl, _⟩ | ⟨g', cap, cur, rfl, hb, hh, h1, h2, h3, h4⟩
  · cases hg
  · simp [Value.ownBlock] at hg
    subst hg
    have hl := h.1
    refine ⟨by rw [List.length_set]; exact hl, Or.inr ⟨g', cap, cur.set! i u, rfl, hb, ?_, h1, h2, by simpa using h3, ?_⟩⟩
    · have := heap_setCell_same (w := w) (b := g') (i := i) hh u
      simpa using this
    · rw [← h4]
      simp [List.take_set]

/-- Bytes at a file's end. -/
def RSt.addTo (s : RSt) (m : Nat) (v : Value) (bs : List UInt8) : RSt := { s with files := s.files.set m (v, bs, ((s.files[m]?).map fun x => x.2.2).getD 0) }

theorem IsRef.put {w w1 : World} {r : Nat} {s : RSt} (h : IsRef w r s) {m g c : Nat} (hm : m < s.files.length) (hg : s.fv = .slice (some ⟨g, 0, none⟩) s.files.length c) (hb : Below w.heap.size w w1) {v : Value} {bs : List UInt8} {base : Nat} (ho : w1.ownsRow base 5 1 v bs.length (byteVals bs)) (hz : w.heap.size ≤ base) :
    IsRef (w1.setCell ⟨g, m * 2, none⟩ v) r (s.addTo m v bs) ∧ KT (refS s.base) w (w1.setCell ⟨g, m * 2, none⟩ v) := by
  have k1 : KT (oneS s.base 93) w w1 := KT.below hb
  have a1 : RefAt w1 r s.cap s.fv s.dv s.kv s.pv s.qv s.stop s.cnt := (hb.block r h.at_.lt).trans h.at_
  have f1 := k1.below_rows h.rF hb
  have hgb : s.fv.ownBlock = some g := by rw [hg]; rfl
  have k2 : KT (oneS s.base 93) w1 (w1.setCell ⟨g, m * 2, none⟩ v) := by
    obtain ⟨cs, fr, e⟩ := row_block f1 hgb
    exact (Kept.refl _ w1).setCell (p := ⟨g, m * 2, none⟩) (fun _ => ⟨_, _, _, e, by simp [oneS, (f1.lt g hgb).1]⟩) _
  refine ⟨⟨h.lo, k2.heap a1 (noS rfl), ?_, k2.ownsRow (k1.ownsRow h.rD (noS rfl)) (noS rfl), k2.ownsRow (k1.ownsRow h.rK (noS rfl)) (noS rfl), k2.ownsRow (k1.ownsRow h.rP (noS rfl)) (noS rfl), k2.ownsRow (k1.ownsRow h.rQ (noS rfl)) (noS rfl), ?_, ?_⟩, (k1.ref rfl).trans (k2.ref rfl)⟩
  · have := ownsRow_set f1 hgb (i := m * 2) (by rw [f1.1]; omega) v
    rw [rfCells_set s.files m hm v bs] at this
    unfold RSt.addTo
    simp only [List.length_set, List.getElem?_eq_getElem hm, Option.map_some, Option.getD_some]
    exact this
  · intro x hx
    rcases List.mem_or_eq_of_mem_set hx with hx | rfl
    · exact k2.rb (k1.rb (h.bytes x hx) (noS rfl)) (noS rfl)
    · exact k2.rb ⟨BytesAt.of_row ho, fun b hb => row_block ho hb⟩ (noS rfl)
  · refine ⟨fun b hb => Nat.lt_of_lt_of_le (h.sep.1 b hb) (Nat.le_trans k1.size k2.size), fun x hx b hb hzb => ?_⟩
    rcases List.mem_or_eq_of_mem_set hx with hx | rfl
    · exact h.sep.2 x hx b hb hzb
    · have h1 := (ho.lt b hb).1
      have h2 := h.sep.1 b hzb
      omega

set_option maxRecDepth 100000 in
set_option maxHeartbeats 4000000 in
theorem refAdd_any {w : World} {r : Nat} {s : RSt} (h : IsRef w r s) (m : Nat) (hm : m < s.files.length) (ol : List UInt8) (hol : ol = s.files[m].2.1) (bv : Value) (bs : List UInt8) (hb : BytesAt w bv bs) (hl : ol.length + bs.length ≤ 1000000000) (hf : s.files.length ≤ 1000000000) :
    Calls Try.prog 69 #[.pointer (some ⟨r, 0, none⟩), .int .i64 m, bv] w fun e w' => e = .returned (.tuple #[]) ∧ (∃ v, IsRef w' r (s.addTo m v (ol ++ bs))) ∧ KT (refS s.base) w w' := by
  obtain ⟨c0, c1, c2, c3, c4, c5, c6, c7, cf⟩ := h.at_.cells
  obtain ⟨g, gc, hg⟩ := row_some h.rF (by omega)
  obtain ⟨y0, y1⟩ := h.file hm hg
  have hrb := h.bytes _ (List.getElem_mem hm)
  rw [← hol] at hrb
  have HB : Hid (∀ w1, Below w.heap.size w w1 → BytesAt w1 s.files[m].1 ol) := fun w1 hb1 => hrb.at_.below hb1
  have HB2 : Hid (∀ w1, Below w.heap.size w w1 → BytesAt w1 bv bs) := fun w1 hb1 => hb.below hb1
  have HG : Hid (s.fv = .slice (some ⟨g, 0, none⟩) s.files.length gc) := hg
  have hgl : g < w.heap.size := (h.rF.lt g (by rw [hg]; rfl)).2
  have hfr : w.frozen? ⟨g, m * 2, none⟩ = false := by
    exact row_frozen h.rF (k := g) (by rw [hg]; rfl) _
  obtain ⟨oa, oc, ho, _⟩ := hrb.at_.shape
  have HO : Hid (s.files[m].1 = .slice oa ol.length oc) := ho
  rw [ho] at y0
  rw [hg] at c1
  obtain ⟨ba, bc, hbv, _⟩ := hb.shape
  subst hbv
  have hrl := h.at_.lt
  clear hg ho hrb hb hol
  have HR : Hid (∀ w1, Below w.heap.size w w1 → w1.cell? ⟨r, 1, none⟩ = some (.slice (some ⟨g, 0, none⟩) s.files.length gc) ∧ w1.cell? ⟨g, m * 2, none⟩ = some (.slice oa ol.length oc) ∧ w1.frozen? ⟨g, m * 2, none⟩ = false) := fun w1 hb1 => ⟨(hb1.cell (p := ⟨r, 1, none⟩) hrl).trans c1, (hb1.cell (p := ⟨g, m * 2, none⟩) hgl).trans y0, (hb1.frozen (p := ⟨g, m * 2, none⟩) hgl).trans hfr⟩
  have hmade : ((w.alloc (.cells #[] 5)).drew).ownsRow w.heap.size 5 1 (.slice (some ⟨w.heap.size, 0, none⟩) 0 0) 0 [] := (World.ownsRow_made w #[] 0 (Nat.le_refl _) (Nat.zero_le _) rfl).drew
  have hbm : Below w.heap.size w ((w.alloc (.cells #[] 5)).drew) := ((Below.refl _ w).alloc (Nat.le_refl _) _).drew
  have HM : Hid (((w.alloc (.cells #[] 5)).drew).ownsRow w.heap.size 5 1 (.slice (some ⟨w.heap.size, 0, none⟩) 0 0) 0 []) := hmade
  have HX : Hid (∀ w1, ((w.alloc (.cells #[] 5)).drew).grownBy w1 (Value.slice (some ⟨w.heap.size, 0, none⟩) 0 0).ownBlock → Below w.heap.size w w1) := fun w1 hg1 => hbm.grown hg1 (by simp) (fun k hk => by simp [Value.ownBlock] at hk; omega)
  have HY : Hid (∀ w1 w2 v1 n1 x1, Below w.heap.size w w1 → w1.ownsRow w.heap.size 5 1 v1 n1 x1 → w1.grownBy w2 v1.ownBlock → Below w.heap.size w w2) := fun w1 w2 v1 n1 x1 hb1 ho1 hg1 => hb1.grown hg1 hb1.size (fun k hk => (ho1.lt k hk).1)
  have HBM : Hid (Below w.heap.size w ((w.alloc (.cells #[] 5)).drew)) := hbm
  clear hmade hbm
  go_enter Try.func69, Try.ntmps69
  go_wp2_with fail
  go_region_law (first
    | (refine step_append_bytes _ (by rfl) _ _ (by rfl) w.heap.size _ 0 [] (by rfl) HM.out _ ol (by rfl) (HO.out ▸ HB.out _ HBM.out) (by omega) (by simp) ?_; intro a1 b1 w1 ho1 hg1 hl1; clear hl1; rw [Nat.zero_add, List.nil_append] at ho1; have hbel1 := HX.out _ hg1; have hsz1 := hbel1.size; obtain ⟨p1, p2, p3⟩ := HR.out _ hbel1)
    | (refine step_append_bytes _ (by rfl) _ _ (by rfl) w.heap.size _ _ _ (by rfl) ho1 _ bs (by rfl) (HB2.out _ hbel1) (by omega) hsz1 ?_; intro a2 b2 w2 ho2 hg2 hl2; clear hl2; have hbel2 := HY.out _ _ _ _ _ hbel1 ho1 hg2; obtain ⟨q1, q2, q3⟩ := HR.out _ hbel2))
  all_goals
    go_wp2
    go_end0
    have e1 : (ol ++ bs).length = ol.length + bs.length := by simp
    obtain ⟨i1, i2⟩ := h.put hm HG.out hbel2 (v := .slice a2 (ol.length + bs.length) b2) (bs := ol ++ bs) (base := w.heap.size) (by rw [e1, byteVals_append]; exact ho2) (Nat.le_refl _)
    exact ⟨rfl, ⟨_, i1⟩, i2⟩

end Go.Proofs.Ytipakfdebccchaa

/- The document's disk: bytes are appended. -/
namespace Go.Proofs.Ytipakfdebccchaa
open Go.RowKit Go.Maps Go.Sort

theorem IsRef.drewN {w : World} {r : Nat} {s : RSt} (h : IsRef w r s) (n : Nat) : IsRef (w.drewN n) r s := h.kept ((Kept.refl (fun _ => False) w).drewN n) id (fun _ _ _ _ => id)
theorem RB.drewN {w : World} {v : Value} {bs : List UInt8} (h : RB w v bs) (n : Nat) : RB (w.drewN n) v bs := h.kept ((Kept.refl (fun _ => False) w).drewN n) (fun _ _ => id)
theorem KT.drewN {S : Nat → TypeId → Bool} {a b : World} (h : KT S a b) (n : Nat) : KT S a (b.drewN n) := Kept.drewN h n

set_option maxRecDepth 100000 in
set_option maxHeartbeats 4000000 in
/-- Append of some bytes, the operation not refused, the file there, and room. -/
theorem refAppend_ok {w : World} {r : Nat} {s : RSt} (name : ByteArray) (hb : Calls Try.prog 68 #[.pointer (some ⟨r, 0, none⟩)] w fun e w' => e = .returned (.tuple #[.int .i64 0, .int .i64 0]) ∧ IsRef w' r s ∧ KT (refS s.base) w w')
    (hs : name.size ≤ maxLen) (hr : rn name = true) (k m : Nat) (hk : k < s.dir.length) (hat : ∀ i, Stands s.dir name i → i = k) (hm : s.dir[k].2 = m) (hml : m < s.files.length)
    (hl : s.dir.length ≤ 1000000000) (hf : s.files.length ≤ 1000000000) (hw : Within_ s.files s.dir) (hu : usedL s.files s.dir ≤ 1000000000000) (hc0 : 0 ≤ s.cap) (hc1 : s.cap ≤ 9223372036854775807)
    (ol : List UInt8) (hol : ol = s.files[m].2.1) (bv : Value) (bs : List UInt8) (hbv : RB w bv bs) (hn : 0 < bs.length) (hroom : (bs.length : Int) ≤ s.cap - (usedL s.files s.dir : Int)) (hlb : ol.length + bs.length ≤ 1000000000) :
    Calls Try.prog 51 #[.pointer (some ⟨r, 0, none⟩), .string name, bv] w fun e w' => e = .returned (.int .i64 0) ∧ (∃ v, IsRef w' r (s.addTo m v (ol ++ bs))) ∧ KT (refS s.base) w w' := by
  have hright : ∀ w, Calls Try.prog 48 #[.string name] w fun e w' => e = .returned (.bool true) ∧ w' = w := fun w => by
    have := refRight_any name w hs
    rw [hr] at this
    exact this
  have HA : Hid (∀ i, Stands s.dir name i → i = k) := hat
  have HW : Hid (∀ w1, IsRef w1 r s → Calls Try.prog 30 #[.pointer (some ⟨r, 0, none⟩)] w1 fun e w' => e = .returned (.int .i64 (usedL s.files s.dir)) ∧ ∃ q, w' = w1.drewN q) := fun w1 h1 => refUsed_any h1 hw hl hu
  have HADD : Hid (∀ w1, IsRef w1 r s → RB w1 bv bs → Calls Try.prog 69 #[.pointer (some ⟨r, 0, none⟩), .int .i64 m, bv] w1 fun e w' => e = .returned (.tuple #[]) ∧ (∃ v, IsRef w' r (s.addTo m v (ol ++ bs))) ∧ KT (refS s.base) w1 w') := fun w1 h1 h2 => refAdd_any h1 m hml ol hol bv bs h2.at_ hlb hf
  have HRB : Hid (∀ w1, KT (refS s.base) w w1 → RB w1 bv bs) := fun w1 h1 => h1.rb hbv (noR rfl)
  have HE : Hid (∀ w1, IsRef w1 r s → ∃ g c, s.dv = .slice (some ⟨g, 0, none⟩) s.dir.length c ∧ w1.cell? ⟨g, k * 2 + 1, none⟩ = some (.int .i64 m)) := fun w1 h1 => by
    obtain ⟨g, c, hg⟩ := row_some h1.rD (by omega)
    have := (h1.entry hk hg).2
    rw [hm] at this
    exact ⟨g, c, hg, this⟩
  obtain ⟨ba, bc, hbs, _⟩ := hbv.at_.shape
  subst hbs
  have hn' : (0 : Int) < (bs.length : Int) := by omega
  have hn2 : ((bs.length : Int) == 0) = false := beq_eq_false_iff_ne.2 (by omega)
  have hn3 : decide ((bs.length : Int) = 0) = false := decide_eq_false (by omega)
  clear hat hw hol hbv hm hn
  generalize usedL s.files s.dir = ul at *
  generalize ol ++ bs = al at *
  go_enter Try.func51, Try.ntmps51
  go_wp2_with (first
    | (go_at_call 68; refine hb.mono ?_; rintro e w1 ⟨rfl, hI, hkt⟩; obtain ⟨c0, c1, c2, c3, c4, c5, c6, c7, cf⟩ := hI.at_.cells)
    | (go_at_call 47; refine (refAt_any _ s.dir name _ _ hI.rD hl).mono ?_; rintro e w1 ⟨⟨i, rfl, hi⟩, rfl⟩; have hneg := HA.out _ hi; clear hi; subst hneg))
  obtain ⟨g, gc, hg, he⟩ := HE.out _ hI
  rw [hg] at c2
  go_quiet (first | (go_at_call 48; exact Calls.quiet_of_same (hright _)) | (go_at_call 30; exact Calls.quiet_of (HW.out _ (hI.drewN _))))
  go_wp2_with (first
    | (go_at_call 48; refine (hright _).mono ?_; rintro e w2 ⟨rfl, rfl⟩)
    | (go_at_call 69; refine (HADD.out _ (hI.drewN nq) ((HRB.out _ hkt).drewN nq)).mono ?_; rintro e w2 ⟨rfl, hI2, hk2⟩))
  go_ret
  exact ⟨rfl, hI2, (hkt.drewN nq).trans hk2⟩

end Go.Proofs.Ytipakfdebccchaa
