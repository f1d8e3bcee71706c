/- The pair's Crash, and what goes on to its operations. -/
import Derived.Test.YtipakfdebccchaaMJ3
import Derived.Test.YtipakfdebccchaaMF4
namespace Go.Proofs.Ytipakfdebccchaa
open Go.RowKit Go.Maps Go.Sort

def encI (n : Int) : Value := .int .i64 n
theorem ints_one (l : List Int) : ∀ u ∈ l.map encI, u.oneCell' = true := fun u hu => by
  simp only [List.mem_map] at hu
  obtain ⟨x, _, rfl⟩ := hu
  rfl
theorem wpList_append_ints (w : World) {ops : Array Oper} {rest : List Oper} {o : Oper} {a : Act} {Q : Exit → Act → World → Prop} (hgd : o.guard = none) (s x : Operand)
    (ho : o.op = .call { callee := .builtin .append, args := #[s, x], argTypes := #[32, 32] }) (base : Nat) (v : Value) (n : Nat) (xs : List Value) (hs : a.eval s = v) (hown : w.ownsRow base 3 1 v n xs)
    (xv : Value) (nw : List Int) (hx : a.eval x = xv) (hb : IntsAt w xv nw) (hl : n + nw.length ≤ 17592186044416) (hbase : base ≤ w.heap.size)
    (h : ∀ v' w', w'.ownsRow base 3 1 v' (n + nw.length) (xs ++ nw.map encI) → w.grownBy w' v.ownBlock → wpList Try.prog ops Q rest (a.put o.dst v') w') :
    wpList Try.prog ops Q (o :: rest) a w := by
  obtain ⟨i0, hi0, hz0, hz1, hz2⟩ := info_parts info3
  obtain ⟨ax, c, rfl, hlc, hcl⟩ := id hb
  have hsome : ∀ ad : Addr, ax = some ad → (∀ j u, (nw.map encI)[j]? = some u → w.cell? (ad.add j) = some u) → ∃ v' w', (Builtin.append_ #[32, 32] o.type #[v, .slice ax nw.length c]).run Try.prog w = .ok v' w' ∧ w'.ownsRow base 3 1 v' (n + nw.length) (xs ++ nw.map encI) ∧ w.grownBy w' v.ownBlock := fun ad e hcell => by
    subst e
    obtain ⟨v', w', hr, h2, h3, _, h5⟩ := run_append_own_at (P := Try.prog) w base 32 o.type 3 i0 _ 1 8 Try.underlying32 hi0 hz0 hz1 hz2 rfl (by decide) v n xs hown ad nw.length c (nw.map encI) (by rw [List.length_map]; omega) hcell (ints_one nw) (by unfold maxLen; omega) (by omega) hbase
    exact ⟨v', w', hr, h2, h3⟩
  have hall : ∃ v' w', (Builtin.append_ #[32, 32] o.type #[v, .slice ax nw.length c]).run Try.prog w = .ok v' w' ∧ w'.ownsRow base 3 1 v' (n + nw.length) (xs ++ nw.map encI) ∧ w.grownBy w' v.ownBlock := by
    cases nw with
    | nil =>
      cases ax with
      | none => exact ⟨v, w, run_append_owned_none (P := Try.prog) (w := w) base 32 o.type 3 i0 1 Try.underlying32 hi0 v n xs hown, by simpa using hown, ⟨rfl, rfl, rfl, Nat.le_refl _, fun _ _ _ => rfl⟩⟩
      | some ad => exact hsome ad rfl (fun j u hu => by simp at hu)
    | cons y r =>
      obtain ⟨b, o1, rfl, -⟩ := hcl 0 (by simp)
      refine hsome _ rfl (fun j u hu => ?_)
      have hj : j < (y :: r).length := by
        have := (List.getElem?_eq_some_iff.1 hu).1
        simpa using this
      obtain ⟨b', o', e, _, h1⟩ := hcl j hj
      cases e
      rw [Addr.add_lit, h1, ← hu, List.getElem?_map, List.getElem?_eq_getElem hj]
      rfl
  refine wpList_plain hgd fun K hK => ?_
  obtain ⟨v', w', hr, h2, h3⟩ := hall
  unfold Oper.wp execOp
  simp only [ho, resolve, invoke, builtin, Sem.run_bind, Sem.run_pure, Result.andThen_ok, List.map_toArray, List.map_cons, List.map_nil, hs, hx, hr]
  exact hK _ _ (h v' w' h2 h3)


theorem IntsAt.of_row {w : World} {base : Nat} {v : Value} {xs : List Int} (h : w.ownsRow base 3 1 v xs.length (xs.map encI)) : IntsAt w v xs := by
  obtain ⟨a, c, rfl⟩ := slice_of_row h
  have hc := ownsRow_cap h
  refine ⟨a, c, rfl, hc, fun j hj => ?_⟩
  obtain ⟨g, c', e⟩ := row_some h (by omega)
  simp at e
  obtain ⟨rfl, rfl⟩ := e
  have h1 := h.cells (g := g) rfl j (encI xs[j]) (by simp [hj])
  rw [Addr.add_lit] at h1
  exact ⟨g, 0, rfl, (h.lt g rfl).2, h1⟩

theorem Done.from_ {w W w2 : World} {p d r base k : Nat} {b : RA} (h : Done W w2 p d r base k b) (hb : Below base w W) : Done w w2 p d r base k b := by
  obtain ⟨Z, h1, h2⟩ := h
  exact ⟨Z, h1, hb.trans h2⟩
theorem Done.then_ {w w2 w3 : World} {p d r base k : Nat} {b : RA} (h : Done w w2 p d r base k b) (hw : base ≤ w2.heap.size) (hb : Below w2.heap.size w2 w3) : Done w w3 p d r base k b := by
  obtain ⟨Z, h1, h2⟩ := h
  exact ⟨Z, h1.below hb, h2.trans (hb.mono hw)⟩

section
variable (w : World) (p d r base k : Nat) (a : RA) (x : OpV) (V : World) (v : Value)
def C1 : Prop := Both p d r w.heap.size x 8 V ∧ PW V p d r base k a ∧ Below w.heap.size w V ∧ V.ownsRow w.heap.size 3 1 v x.cs.length (x.cs.map encI)
def C2 : Prop := (∃ W, Mid2 w W V p d r w.heap.size base k x 8 a (a.crash x.cs)) ∧ base ≤ V.heap.size ∧ V.ownsRow w.heap.size 3 1 v x.cs.length (x.cs.map encI)
def C3 : Prop := Both p d r w.heap.size x 8 V ∧ Done w V p d r base k (a.crash x.cs) ∧ base ≤ V.heap.size ∧ V.ownsRow w.heap.size 3 1 v x.cs.length (x.cs.map encI)
end
section
variable {w : World} {p d r base k : Nat} {a : RA} (h : PW w p d r base k a) (hk : k ≤ 999) (x : OpV) (hbw : base ≤ w.heap.size) (hc : IntsAt w x.cv x.cs) (hlow : ∀ b, x.cv.ownBlock = some b → x.cs ≠ [] → b < base)
include h hk hbw hc hlow
theorem cr_ints {V : World} (hb : Below base w V) : IntsAt V x.cv x.cs := by
  have := h
  have := hk
  have := hbw
  have k' : Kept (fun i => base ≤ i) w V := ⟨hb.os, hb.tape, hb.output, hb.size, fun i _ hi => hb.block i (by omega)⟩
  exact hc.kept k' (fun b hb1 hne e => by have := hlow b hb1 hne; omega)
theorem cr_2 (V : World) (v : Value) (h1 : C1 w p d r base k a x V v) : Calls Try.prog 11 #[.pointer (some ⟨d, 0, none⟩), v] V fun e w1 => e = .returned (.tuple #[]) ∧ C2 w p d r base k a x w1 v := by
  have := h
  have := hc
  have := hlow
  obtain ⟨hB, hP, hb, hr⟩ := h1
  obtain ⟨s, fs, blk, hS⟩ := hP.prog
  have hbV : base ≤ V.heap.size := Nat.le_trans hbw hb.size
  refine (P_crash hS hP.inv (by omega) (by omega) v x.cs (IntsAt.of_row hr).cuts (fun b o l c e hne => ?_)).mono ?_
  · obtain ⟨cs, fr, eb⟩ := row_block hr (k := b) (by rw [e]; rfl)
    exact hS.notOwn eb (by decide) (by decide) (by decide)
  · rintro e w1 ⟨he, hP1, hK⟩
    refine ⟨he, ⟨V, mid_of hB hP (hb.mono hbw) hbV hP1 hK⟩, Nat.le_trans hbV hK.size, ?_⟩
    refine Kept.ownsRow (O := PO a.zone base V) hK hr (fun q hq => ?_)
    obtain ⟨cs, fr, eb⟩ := row_block hr hq
    exact po_no eb (by decide) (by decide) (by decide) (fun e => absurd e (by decide))
theorem cr_3 (V : World) (v : Value) (h1 : C2 w p d r base k a x V v) : Calls Try.prog 22 #[.pointer (some ⟨r, 0, none⟩), x.cv] V fun e w1 => e = .returned (.tuple #[]) ∧ C3 w p d r base k a x w1 v := by
  obtain ⟨⟨W, hM⟩, hb, hr⟩ := h1
  have hI := cr_ints h hk x hbw hc hlow hM.bel
  refine (refCrash_any hM.doc (h.inv.withZ _) (by omega) (by omega) x.cv x.cs hI hlow).mono ?_
  rintro e w2 ⟨he, hR, hK⟩
  obtain ⟨h1, h2⟩ := done_of hM (h.inv.crash x.cs) hb hR hK
  exact ⟨he, h1, h2, Nat.le_trans hb hK.size, hK.ownsRow hr (noR rfl)⟩
theorem cr_4 (V : World) (v : Value) (h1 : C3 w p d r base k a x V v) : Calls Try.prog 23 #[v, x.cv] V fun e w1 => e = .returned (.bool true) ∧ C3 w p d r base k a x w1 v := by
  obtain ⟨hB, hD, hb, hr⟩ := h1
  have hI : IntsAt V x.cv x.cs := by
    obtain ⟨Z, _, h2⟩ := hD
    exact cr_ints h hk x hbw hc hlow h2
  refine (ints_any v x.cv x.cs V (IntsAt.of_row hr) hI).mono ?_
  rintro e w1 ⟨he, q, rfl⟩
  have hbn : ∀ q, Below V.heap.size V (V.drewN q) := fun q => by
    induction q with
    | zero => exact Below.refl _ _
    | succ q ih => exact ih.drew
  exact ⟨he, hB.below (hbn q), hD.then_ hb (hbn q), Nat.le_trans hb (hbn q).size, row_still hr (hbn q)⟩
theorem cr_5 (V : World) (v : Value) (h1 : C3 w p d r base k a x V v) : Calls Try.prog 9 #[.pointer (some ⟨p, 0, none⟩)] V fun e w1 => e = .returned (.bool true) ∧ Done w w1 p d r base k (a.crash x.cs) := by
  have := h
  have := hbw
  have := hc
  have := hlow
  obtain ⟨hB, hD, hb, hr⟩ := h1
  obtain ⟨Z, h2, h3⟩ := id hD
  exact (same_any h2 (by omega)).mono (fun e w1 ⟨he, hb1⟩ => ⟨he, hD.then_ hb hb1⟩)
end

set_option maxRecDepth 100000 in
set_option maxHeartbeats 2000000 in
theorem does_crash {w : World} {p d r base k : Nat} {a : RA} (h : PW w p d r base k a) (hk : k ≤ 999) (x : OpV) (hbw : base ≤ w.heap.size) (hact : x.act % 11 = 8) (ha1 : -9223372036854775808 ≤ x.act) (ha2 : x.act ≤ 9223372036854775807) (hc : IntsAt w x.cv x.cs) (hlow : ∀ b, x.cv.ownBlock = some b → x.cs ≠ [] → b < base) (hcl : x.cs.length ≤ 17592186044416) :
    Calls Try.prog 7 #[.pointer (some ⟨p, 0, none⟩), .agg #[.int .i64 x.act, .int .i64 x.n, .int .i64 x.k, .string x.name, .string x.dest, x.bv, x.cv]] w fun e w' => e = .returned (.bool true) ∧ Done w w' p d r base k (a.crash x.cs) := by
  have H2 : Hid (∀ V v, C1 w p d r base k a x V v → Calls Try.prog 11 #[.pointer (some ⟨d, 0, none⟩), v] V fun e w1 => e = .returned (.tuple #[]) ∧ C2 w p d r base k a x w1 v) := cr_2 h hk x hbw hc hlow
  have H3 : Hid (∀ V v, C2 w p d r base k a x V v → Calls Try.prog 22 #[.pointer (some ⟨r, 0, none⟩), x.cv] V fun e w1 => e = .returned (.tuple #[]) ∧ C3 w p d r base k a x w1 v) := cr_3 h hk x hbw hc hlow
  have H4 : Hid (∀ V v, C3 w p d r base k a x V v → Calls Try.prog 23 #[v, x.cv] V fun e w1 => e = .returned (.bool true) ∧ C3 w p d r base k a x w1 v) := cr_4 h hk x hbw hc hlow
  have H5 : Hid (∀ V v, C3 w p d r base k a x V v → Calls Try.prog 9 #[.pointer (some ⟨p, 0, none⟩)] V fun e w1 => e = .returned (.bool true) ∧ Done w w1 p d r base k (a.crash x.cs)) := cr_5 h hk x hbw hc hlow
  have HS : Hid (∀ w1, w1 = w.alloc (.cells #[.int .i64 8, .int .i64 x.n, .int .i64 x.k, .string x.name, .string x.dest, x.bv, x.cv] 34) → (Both p d r w.heap.size x 8 w1 ∧ PW w1 p d r base k a ∧ Below w.heap.size w w1) ∧ IntsAt w1 x.cv x.cs ∧ w.heap.size < w1.heap.size) := fun w1 hw => by
    obtain ⟨h1, h2, h3, h4, h5⟩ := boxed h x hbw 8 w1 hw
    exact ⟨⟨h1, h2, h3⟩, cr_ints h hk x hbw hc hlow h4, by rw [hw]; simp⟩
  have HW : Hid (∀ W, Calls Try.prog 17 #[.int .i64 x.act, .int .i64 11] W fun e w' => e = .returned (.int .i64 8) ∧ w' = W) := fun W => by
    rw [← hact]
    exact within_any x.act 11 W (by decide) (by decide) ha1 ha2
  have HXC : Hid (IntsAt w x.cv x.cs) := hc
  clear h hact ha1 ha2 hc hlow
  go_enter Try.func7, Try.ntmps7
  go_upto_region 11 with (go_at_call 17; refine (HW.out _).mono ?_; rintro e w1 ⟨rfl, rfl⟩)
  refine goOn (S := fun W => (Both p d r w.heap.size x 8 W ∧ PW W p d r base k a ∧ Below w.heap.size w W) ∧ IntsAt W x.cv x.cs ∧ w.heap.size < W.heap.size) (HS.out _ rfl) ?_
  rintro W ⟨⟨hB, hW, hbl⟩, hIW, hlt⟩
  obtain ⟨b0, b1, b2, b3, b4, b5, b6, b7, b8, _⟩ := hB.all
  have HAP : Hid (∀ v1 w1, w1.ownsRow W.heap.size 3 1 v1 x.cs.length (x.cs.map encI) → (W.alloc (.cells #[] 3)).grownBy w1 (Value.slice (some ⟨W.heap.size, 0, none⟩) 0 0).ownBlock → C1 w p d r base k a x w1 v1) := fun v1 w1 hr hg => by
    have hA : Below W.heap.size W (W.alloc (.cells #[] 3)) := (Below.refl _ W).alloc (Nat.le_refl _) _
    have hb1 : Below W.heap.size W w1 := hA.grown hg (by simp) (fun k hk => by simp [Value.ownBlock] at hk; omega)
    exact ⟨hB.below hb1, hW.below hb1, below_to hbl hb1 hbl.size, row_base hr (by omega)⟩
  have HM : Hid ((W.alloc (.cells #[] 3)).ownsRow W.heap.size 3 1 (.slice (some ⟨W.heap.size, 0, none⟩) 0 0) 0 []) := World.ownsRow_made W #[] 0 (Nat.le_refl _) (Nat.zero_le _) rfl
  have HIA : Hid (IntsAt (W.alloc (.cells #[] 3)) x.cv x.cs) := hIW.kept ((Kept.refl (fun _ => False) W).below ((Below.refl _ W).alloc (Nat.le_refl _) _)) (fun _ _ _ e => e)
  clear hW hbl hIW HS
  go_upto_region 13 with (first
    | (at_builtin; refine wpList_append_ints _ rfl _ _ rfl W.heap.size _ 0 [] rfl HM.out _ x.cs rfl HIA.out (by omega) (by simp) ?_; intro v1 w1 hr1 hg1; rw [Nat.zero_add, List.nil_append] at hr1; have hC1 := HAP.out _ _ hr1 hg1; obtain ⟨a1, c1, rfl⟩ := slice_of_row hr1; obtain ⟨g0, g1, _⟩ := hC1.1.all; clear hr1 hg1 b0 b1 b2 b3 b4 b5 b6 b7 b8 hB)
    | (go_at_call 11; refine (H2.out _ _ hC1).mono ?_; rintro e w2 ⟨rfl, hC2⟩))
  refine goOn (S := fun V => C2 w p d r base k a x V (.slice a1 x.cs.length c1)) hC2 ?_
  clear hC1 hC2 g0 g1
  intro V hC2
  have hB : Both p d r w.heap.size x 8 V := (by obtain ⟨⟨_, hM⟩, _⟩ := hC2; exact hM.both)
  have hC2d : C2 w p d r base k a x V.drew (.slice a1 x.cs.length c1) := (by obtain ⟨⟨W', hM⟩, q1, q2⟩ := hC2; exact ⟨⟨W', hM.drew⟩, q1, row_still q2 ((Below.refl _ V).drew)⟩)
  obtain ⟨b0, b1, b2, b3, b4, b5, b6, b7, b8, _⟩ := hB.all
  go_wp2_with fail
  go_region_held3 (fun w' => w'.cell? ⟨p, 0, none⟩ = some (.pointer (some ⟨d, 0, none⟩)) ∧ w'.cell? ⟨p, 1, none⟩ = some (.pointer (some ⟨r, 0, none⟩)) ∧ w'.cell? ⟨w.heap.size, 0, none⟩ = some (.int .i64 8) ∧ w'.cell? ⟨w.heap.size, 1, none⟩ = some (.int .i64 x.n) ∧ w'.cell? ⟨w.heap.size, 2, none⟩ = some (.int .i64 x.k) ∧ w'.cell? ⟨w.heap.size, 3, none⟩ = some (.string x.name) ∧ w'.cell? ⟨w.heap.size, 4, none⟩ = some (.string x.dest) ∧ w'.cell? ⟨w.heap.size, 5, none⟩ = some x.bv ∧ w'.cell? ⟨w.heap.size, 6, none⟩ = some x.cv ∧ Both p d r w.heap.size x 8 w')
    (first | (refine Both.all ?_; exact hB) | (refine Both.all ?_; assumption))
    (first
      | (go_at_call 22; refine (H3.out _ _ hC2d).mono ?_; rintro e w3 ⟨rfl, hC3⟩; have hB3 := hC3.1))
  all_goals
    refine goOn (S := fun V => C3 w p d r base k a x V (.slice a1 x.cs.length c1)) hC3 ?_
    clear b0 b1 b2 b3 b4 b5 b6 b7 b8 hB hC2 hC2d hB3 hC3
    intro V3 hC3
    obtain ⟨b0, b1, b2, b3, b4, b5, b6, b7, b8, _⟩ := hC3.1.all
    go_wp2_with (first
      | (go_at_call 23; refine (H4.out _ _ hC3).mono ?_; rintro e w4 ⟨rfl, hC4⟩)
      | (go_at_call 9; refine (H5.out _ _ hC4).mono ?_; rintro e w5 ⟨rfl, hD5⟩))
    go_ret
    exact ⟨rfl, hD5⟩

end Go.Proofs.Ytipakfdebccchaa
