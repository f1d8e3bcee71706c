/- without. -/
import Derived.Test.YtjnjmpfldbkciaaGreatMG2
import Derived.Test.YtjnjmpfldbkciaaGreatMC9
namespace Go.Proofs.YtjnjmpfldbkciaaGreat
open Go.RowKit Go.Maps Go.Sort Go.Shelf
attribute [local go_sem] run_store_fl

/-- Pieces of one set, one behind the other. -/
def UpG (ps : List Gn) : Prop := (∀ a b (hb : b < ps.length) (hab : a < b), (ps[a]'(by omega)).hi < ps[b].lo) ∧ ∀ g ∈ ps, g.lo ≤ g.hi
def hiP (ps : List Gn) (t : Int) (i : Nat) : Bool := match ps[i]? with | some g => decide (t ≤ g.hi) | none => true
theorem hiP_at {ps : List Gn} {t : Int} {i : Nat} (hi : i < ps.length) : hiP ps t i = decide (t ≤ ps[i].hi) := by simp [hiP, hi]
def cntW (ps : List Gn) (t : Int) : Nat := (List.range ps.length).countP fun i => !hiP ps t i
def hitW (ps : List Gn) (t : Int) : Bool := ps.any fun g => decide (g.lo ≤ t) && decide (t ≤ g.hi)
theorem monoW {ps : List Gn} {t : Int} (h : UpG ps) : ∀ a b, a ≤ b → b < ps.length → hiP ps t a = true → hiP ps t b = true := fun a b hab hb h1 => by
  rw [hiP_at (by omega), decide_eq_true_eq] at *
  rcases Nat.lt_or_eq_of_le hab with h2 | h2
  · have h3 := h.1 a b hb h2
    have h4 := h.2 ps[b] (List.getElem_mem hb)
    omega
  · subst h2
    exact h1
theorem cntW_le {ps : List Gn} {t : Int} (h : UpG ps) : cntW ps t ≤ ps.length := (cnt_mono (hiP ps t) ps.length (monoW h)).1
theorem hitW_cnt {ps : List Gn} {t : Int} (h : UpG ps) : hitW ps t = match ps[cntW ps t]? with | some g => decide (g.lo ≤ t) | none => false := by
  obtain ⟨h1, h2⟩ := cnt_mono (hiP ps t) ps.length (monoW h)
  have h2' : ∀ i (hi : i < ps.length), t ≤ ps[i].hi ↔ cntW ps t ≤ i := fun i hi => by
    have := h2 i hi
    rw [hiP_at hi, decide_eq_true_eq] at this
    exact this
  unfold hitW
  rw [Bool.eq_iff_iff, List.any_eq_true]
  rcases Nat.lt_or_ge (cntW ps t) ps.length with hc | hc
  · rw [List.getElem?_eq_getElem hc]
    dsimp only
    rw [decide_eq_true_eq]
    constructor
    · rintro ⟨g, hg, hh⟩
      rw [Bool.and_eq_true, decide_eq_true_eq, decide_eq_true_eq] at hh
      obtain ⟨i, hi, rfl⟩ := List.getElem_of_mem hg
      have h3 := (h2' i hi).1 hh.2
      rcases Nat.lt_or_eq_of_le h3 with h4 | h4
      · have h5 := h.1 _ _ hi h4
        have h6 := (h2' _ hc).2 (Nat.le_refl _)
        omega
      · rw [← getElem_congr_idx h4] at hh
        exact hh.1
    · intro h3
      exact ⟨_, List.getElem_mem hc, by rw [decide_eq_true h3, decide_eq_true ((h2' _ hc).2 (Nat.le_refl _))]; rfl⟩
  · rw [List.getElem?_eq_none hc]
    constructor
    · rintro ⟨g, hg, hh⟩
      rw [Bool.and_eq_true, decide_eq_true_eq, decide_eq_true_eq] at hh
      obtain ⟨i, hi, rfl⟩ := List.getElem_of_mem hg
      have := (h2' i hi).1 hh.2
      omega
    · intro h3
      cases h3
def leftW (ps : List Gn) (ss : List Sm) : List Sm := ss.filter fun x => !hitW ps x.1
theorem leftW_take (ps : List Gn) (ss : List Sm) (j : Nat) (hj : j < ss.length) : leftW ps (ss.take (j + 1)) = leftW ps (ss.take j) ++ (if hitW ps ss[j].1 = true then [] else [ss[j]]) := by
  unfold leftW
  rw [List.take_succ_eq_append_getElem hj, List.filter_append]
  congr 1
  cases h : hitW ps ss[j].1 <;> simp [h]

/-- What the search reads. -/
structure WtBox (w : World) (X Y : Nat) (a : Option Addr) (n c : Nat) (ps : List Gn) (t : Int) : Prop where
  b1 : w.cell? ⟨X, 0, none⟩ = some (.slice a n c)
  b2 : w.cell? ⟨Y, 0, none⟩ = some (.int .i64 t)
  x1 : X < w.heap.size
  x2 : Y < w.heap.size
  row : RowAt w (.slice a n c) 3 n (gnC ps)
  len : ps.length = n
theorem WtBox.grow {w w' : World} {X Y : Nat} {a : Option Addr} {n c : Nat} {ps : List Gn} {t : Int} (h : WtBox w X Y a n c ps t) (hg : Below w.heap.size w w') : WtBox w' X Y a n c ps t :=
  ⟨(hg.cell (p := ⟨X, 0, none⟩) h.x1).trans h.b1, (hg.cell (p := ⟨Y, 0, none⟩) h.x2).trans h.b2, Nat.lt_of_lt_of_le h.x1 hg.size, Nat.lt_of_lt_of_le h.x2 hg.size, RowAt.below h.row hg, h.len⟩

set_option maxRecDepth 100000 in
set_option maxHeartbeats 2000000 in
theorem wtClos (X Y : Nat) (a : Option Addr) (n c : Nat) (ps : List Gn) (t : Int) (w : World) (h : WtBox w X Y a n c ps t) (i : Nat) (hi : i < n) (_hn : n ≤ 1000) :
    Calls Tryz.prog 44 #[.int .i64 i, .pointer (some ⟨X, 0, none⟩), .pointer (some ⟨Y, 0, none⟩)] w fun e w' => e = .returned (.bool (hiP ps t i)) ∧ GrW w w' := by
  obtain ⟨b, o, rfl, hone⟩ := row3n h.row h.len i hi
  have hil : i < ps.length := by rw [h.len]; exact hi
  rw [hiP_at hil]
  obtain ⟨-, -, g2⟩ := hone w (Below.refl _ _)
  generalize (ps[i]'hil).hi = H at *
  have c0 := h.b1
  have c1 := h.b2
  have hil2 : (i : Int) < (n : Int) := by omega
  have HG : Hid (∀ q, GrW w (w.drewN q)) := fun q => (GrW.refl w).drewN q
  clear h hone
  go_enter Tryz.func44, Tryz.ntmps44
  go_wp2_with fail
  go_quiet (fail)
  go_wp2
  go_ret
  exact ⟨by simp, HG.out _⟩

theorem wtSearch (X Y : Nat) (a : Option Addr) (n c : Nat) (ps : List Gn) (t : Int) (w : World) (h : WtBox w X Y a n c ps t) (hu : UpG ps) (hn : n ≤ 1000) :
    Calls Tryz.prog 43 #[.int .i64 n, .func (.func 44) #[] #[.pointer (some ⟨X, 0, none⟩), .pointer (some ⟨Y, 0, none⟩)]] w fun e w' => e = .returned (.int .i64 (cntW ps t : Nat)) ∧ GrW w w' := by
  have e1 : ∀ args w, (callFunc 44 args).run Tryz.prog w = .ok (.enter 44 args) w := enters_of Tryz.func44 (by kernel_rfl) rfl
  have hc := Any.sort_Search Tryz.search 44 #[.pointer (some ⟨X, 0, none⟩), .pointer (some ⟨Y, 0, none⟩)] n (hiP ps t) w e1 (by omega) (fun m os i hi => wtClos X Y a n c ps t _ (h.grow (GrW.below ⟨m, os, rfl⟩)) i hi hn) (by rw [← h.len]; exact monoW hu)
  change Calls Tryz.prog 43 _ _ _ at hc
  refine hc.mono ?_
  rintro e w' ⟨he, hg⟩
  exact ⟨by rw [he]; unfold cntW; rw [h.len], hg⟩

end Go.Proofs.YtjnjmpfldbkciaaGreat
