/- The order of pieces by the program. -/
import Derived.Test.YtjnjmpfldbkciaaGreatMD3
import Derived.Test.YtjnjmpfldbkciaaGreatMYi
import Derived.Deep.RegionHeld3
namespace Go.Proofs.YtjnjmpfldbkciaaGreat
open Go.RowKit Go.Maps Go.Sort Go.Shelf

def orL : List Int → Int
  | [] => 0
  | x :: r => if x = 0 then orL r else x
def inC (l : List Int) : List Value := l.map fun x => .int .i64 x
theorem inC_at {w : World} {a : Option Addr} {c n : Nat} {l : List Int} (h : RowAt w (.slice a n c) 1 n (inC l)) (k : Nat) (hk : k < l.length) : ∃ b o, a = some ⟨b, o, none⟩ ∧ ∀ w', Below w.heap.size w w' → w'.cell? ⟨b, o + k, none⟩ = some (.int .i64 l[k]) := RowAt.one h (by simp [inC, hk])

set_option maxRecDepth 100000 in
set_option maxHeartbeats 1000000 in
theorem or_any (v : Value) (l : List Int) (w : World) (h : RowAt w v 1 l.length (inC l)) (hl : l.length ≤ 1000) :
    Calls Tryz.prog 22 #[v] w fun e w' => e = .returned (.int .i64 (orL l)) ∧ w' = w := by
  obtain ⟨a1, c1, rfl, -⟩ := id h
  have HL : Hid (RowAt w (.slice a1 l.length c1) 1 l.length (inC l)) := h
  clear h
  go_enter Tryz.func22, Tryz.ntmps22
  go_wp2
  go_loopw [5, 8] (fun _ i wr => ∃ (k : Nat), k ≤ l.length ∧ i = .int .i64 k ∧ Hid (orL (l.drop k) = orL l) ∧ wr = w) (fun _ i _ => l.length - (intOf i).toNat)
  case atStart => exact ⟨0, Nat.zero_le _, rfl, rfl, rfl⟩
  case round =>
    obtain ⟨k, hk, rfl, hor, rfl⟩ := hrel
    by_cases hlt : k < l.length
    · obtain ⟨b0, o0, e0, hone⟩ := inC_at HL.out k hlt
      subst e0
      have g0 := hone wr (Below.refl _ _)
      have HST : Hid (orL l = if l[k] = 0 then orL (l.drop (k + 1)) else l[k]) := by
        show _ = _
        rw [← hor.out, List.drop_eq_getElem_cons hlt]
        rfl
      generalize l[k] = x at *
      have hkl : (k : Int) < (l.length : Int) := by omega
      clear hone hor
      by_cases hx : x = 0
      · subst hx
        go_wp2_with fail
        go_roundw
        case rel => exact ⟨k + 1, by omega, by go_num, HST.out.symm, trivial⟩
        case measure => simp [intOf]; omega
      · go_wp2_with fail
        go_ret
        have h9 := HST.out
        rw [if_neg hx] at h9
        exact ⟨by rw [h9]; rfl, rfl⟩
    · have hkl : ¬ (k : Int) < (l.length : Int) := by omega
      have HE : Hid (orL l = 0) := by
        show _ = _
        rw [← hor.out, List.drop_of_length_le (by omega)]
        rfl
      clear hor
      go_wp2
      go_ret
      have h9 := HE.out
      exact ⟨by rw [h9]; rfl, rfl⟩

def cfG (x y : PG) : Int := orL [cmpL x.1 y.1, cmpI x.2.1 y.2.1]
theorem tcI : TC cmpI where
  rng x y := by unfold cmpI; split <;> (try split) <;> simp
  anti x y := by unfold cmpI; split <;> split <;> (try split) <;> omega
  zero x y := by unfold cmpI; split <;> (try split) <;> simp <;> omega
  tr x y z := by unfold cmpI; split <;> split <;> (try split) <;> (try split) <;> (try split) <;> (try split) <;> omega
theorem tcG : TC (fun x y : List Lb × Int => if cmpL x.1 y.1 = 0 then cmpI x.2 y.2 else cmpL x.1 y.1) := TC.pair tcL tcI
theorem cfG_eq (x y : PG) : cfG x y = (fun x y : List Lb × Int => if cmpL x.1 y.1 = 0 then cmpI x.2 y.2 else cmpL x.1 y.1) (x.1, x.2.1) (y.1, y.2.1) := by
  unfold cfG orL
  dsimp only
  by_cases h : cmpL x.1 y.1 = 0
  · rw [if_pos h, if_pos h]
    unfold orL
    split
    · rename_i h2
      rw [h2]
      rfl
    · rfl
  · rw [if_neg h, if_neg h]
theorem cfG_le {x y : PG} (h : ¬ cfG y x < 0) : LeG x y := by
  rw [cfG_eq] at h
  dsimp only at h
  have ha := tcL.anti x.1 y.1
  unfold LeG
  by_cases h0 : cmpL y.1 x.1 = 0
  · rw [if_pos h0] at h
    refine Or.inr ⟨(tcL.zero _ _).1 (by omega), ?_⟩
    unfold cmpI at h
    split at h
    · omega
    · omega
  · rw [if_neg h0] at h
    exact Or.inl (by omega)

set_option maxRecDepth 100000 in
set_option maxHeartbeats 4000000 in
theorem order_any (x y : Gn) (W : World) (hx : LbAt W x.v x.ls) (hy : LbAt W y.v y.ls) (hfx : x.ls.length ≤ 64) (hfy : y.ls.length ≤ 64) : Calls Tryz.prog 21 #[.agg #[x.v, .int .i64 x.lo, .int .i64 x.hi], .agg #[y.v, .int .i64 y.lo, .int .i64 y.hi]] W fun e w' => e = .returned (.int .i64 (cfG x.p y.p)) ∧ GrW W w' := by
  obtain ⟨xv, xls, xlo, xhi⟩ := x
  obtain ⟨yv, yls, ylo, yhi⟩ := y
  obtain ⟨xa, xc, e1, -⟩ := id hx
  obtain ⟨ya, yc, e2, -⟩ := id hy
  dsimp only at e1 e2 ⊢
  subst e1 e2
  obtain ⟨W2, hW2⟩ : ∃ W2, W2 = (W.alloc (.cells #[.slice xa xls.length xc, .int .i64 xlo, .int .i64 xhi] 39)).alloc (.cells #[.slice ya yls.length yc, .int .i64 ylo, .int .i64 yhi] 39) := ⟨_, rfl⟩
  have hgW : GrW W W2 := by rw [hW2]; exact ((GrW.refl W).alloc _).alloc _
  have HC : Hid (∀ X, GrW W2 X → X.cell? ⟨W.heap.size, 0, none⟩ = some (.slice xa xls.length xc) ∧ X.cell? ⟨W.heap.size, 1, none⟩ = some (.int .i64 xlo) ∧ X.cell? ⟨W.heap.size + 1, 0, none⟩ = some (.slice ya yls.length yc) ∧ X.cell? ⟨W.heap.size + 1, 1, none⟩ = some (.int .i64 ylo) ∧ GrW W2 X) := fun X hX => by
    have hb := hX.below
    have h1 := heap_alloc_new W (.cells #[.slice xa xls.length xc, .int .i64 xlo, .int .i64 xhi] 39)
    have h2 := (Below.heap_alloc _ (.cells #[.slice ya yls.length yc, .int .i64 ylo, .int .i64 yhi] 39) W.heap.size (by simp)).trans h1
    have h3 := heap_alloc_new (W.alloc (.cells #[.slice xa xls.length xc, .int .i64 xlo, .int .i64 xhi] 39)) (.cells #[.slice ya yls.length yc, .int .i64 ylo, .int .i64 yhi] 39)
    rw [show (W.alloc (.cells #[.slice xa xls.length xc, .int .i64 xlo, .int .i64 xhi] 39)).heap.size = W.heap.size + 1 by simp] at h3
    rw [← hW2] at h2 h3
    have hs : W2.heap.size = W.heap.size + 2 := by rw [hW2]; simp
    have m1 := (hb.block W.heap.size (by omega)).trans h2
    have m2 := (hb.block (W.heap.size + 1) (by omega)).trans h3
    exact ⟨cell_of_heap (i := 0) m1, cell_of_heap (i := 1) m1, cell_of_heap (i := 0) m2, cell_of_heap (i := 1) m2, hX⟩
  have HH0 : Hid (∀ X, GrW W2 X → Calls Tryz.prog 23 #[.slice xa xls.length xc, .slice ya yls.length yc] X fun e w' => e = .returned (.int .i64 (cmpL xls yls)) ∧ GrW W2 w') := fun X hX => (compare_g _ _ xls yls X ((hx.below hgW.below).below hX.below) ((hy.below hgW.below).below hX.below) (by dsimp only at hfx; omega) (by dsimp only at hfy; omega)).mono fun e w' ⟨h1, h2⟩ => ⟨h1, hX.trans h2⟩
  have HH1 : Hid (∀ X, GrW W2 X → Calls Tryz.prog 24 #[.int .i64 xlo, .int .i64 ylo] X fun e w' => e = .returned (.int .i64 (cmpI xlo ylo)) ∧ GrW W2 w') := fun X hX => (compareI xlo ylo X).mono fun e w' ⟨h1, h2⟩ => ⟨h1, by rw [h2]; exact hX⟩
  have HF : Hid (cfG (Gn.p ⟨.slice xa xls.length xc, xls, xlo, xhi⟩) (Gn.p ⟨.slice ya yls.length yc, yls, ylo, yhi⟩) = orL [cmpL xls yls, cmpI xlo ylo]) := rfl
  generalize cmpL xls yls = r0 at *
  generalize cmpI xlo ylo = r1 at *
  have HH2 : Hid (∀ (g : Nat) (X : World), X.heap[g]? = some (.cells #[.int .i64 r0, .int .i64 r1] 3) → GrW W2 X → Calls Tryz.prog 22 #[.slice (some ⟨g, 0, none⟩) 2 2] X fun e w' => e = .returned (.int .i64 (orL [r0, r1])) ∧ GrW W2 w') := fun g X h hX => (or_any (.slice (some ⟨g, 0, none⟩) 2 2) [r0, r1] X (RowAt.of_block (n := 2) h rfl (by decide)) (by simp)).mono fun e w' ⟨h1, h2⟩ => ⟨h1, by rw [h2]; exact hX⟩
  rw [HF.out]
  generalize orL [r0, r1] = r at *
  obtain ⟨c0, c1, c2, c3, hgr⟩ := HC.out W2 (GrW.refl _)
  have hd : GrW W2 W2.drew := (GrW.refl W2).drewN 1
  have HDR : Hid (GrW W2 W2.drew) := hd
  have HGW : Hid (GrW W W2) := hgW
  clear hx hy hfx hfy hgW HF
  go_enter Tryz.func21, Tryz.ntmps21
  go_wp2_with fail
  rw [← hW2]
  clear hW2
  go_region_held3 (fun X => X.cell? ⟨W.heap.size, 0, none⟩ = some (.slice xa xls.length xc) ∧ X.cell? ⟨W.heap.size, 1, none⟩ = some (.int .i64 xlo) ∧ X.cell? ⟨W.heap.size + 1, 0, none⟩ = some (.slice ya yls.length yc) ∧ X.cell? ⟨W.heap.size + 1, 1, none⟩ = some (.int .i64 ylo) ∧ GrW W2 X)
    (first | (refine HC.out _ ?_; exact hd) | (refine HC.out _ ?_; assumption) | (refine HC.out _ ?_; exact HA5.out _))
    (first
      | (go_at_call 23; refine (HH0.out _ HDR.out).mono ?_; rintro e w4 ⟨rfl, hg4⟩)
      | (go_at_call 24; refine (HH1.out _ hg4).mono ?_; rintro e w5 ⟨rfl, hg5⟩; have HA5 : Hid (∀ o, GrW W2 (w5.alloc o)) := fun o => hg5.alloc o)
      | (go_at_call 22; refine (HH2.out _ _ (heap_alloc_new w5 _) (HA5.out _)).mono ?_; rintro e w6 ⟨rfl, hg6⟩))
  all_goals
    go_wp2
    go_ret
    exact ⟨rfl, HGW.out.trans hg6⟩

end Go.Proofs.YtjnjmpfldbkciaaGreat
