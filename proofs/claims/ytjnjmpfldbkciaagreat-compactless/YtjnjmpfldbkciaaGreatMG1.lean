/- The pieces of one label set. -/
import Derived.Test.YtjnjmpfldbkciaaGreatMD9
namespace Go.Proofs.YtjnjmpfldbkciaaGreat
open Go.RowKit Go.Maps Go.Sort Go.Shelf

theorem cnt_mono (p : Nat → Bool) : ∀ n, (∀ a b, a ≤ b → b < n → p a = true → p b = true) → (List.range n).countP (fun i => !p i) ≤ n ∧ ∀ i, i < n → (p i = true ↔ (List.range n).countP (fun i => !p i) ≤ i)
  | 0, _ => ⟨by simp, fun i hi => absurd hi (Nat.not_lt_zero i)⟩
  | n + 1, h => by
    obtain ⟨h1, h2⟩ := cnt_mono p n (fun a b hab hb => h a b hab (by omega))
    rw [List.range_succ, List.countP_append]
    cases hp : p n
    · have h3 : ∀ i, i < n → p i = false := fun i hi => by
        cases h4 : p i
        · rfl
        · rw [h i n (by omega) (by omega) h4] at hp
          cases hp
      have h5 : (List.range n).countP (fun i => !p i) = n := by
        rw [List.countP_eq_length.2 (fun a ha => by rw [h3 a (List.mem_range.1 ha)]; rfl), List.length_range]
      simp only [List.countP_singleton, hp, Bool.not_false, if_true, h5]
      refine ⟨Nat.le_refl _, fun i hi => ⟨fun h6 => ?_, fun h6 => absurd h6 (by omega)⟩⟩
      rcases Nat.lt_succ_iff_lt_or_eq.1 hi with h7 | h7
      · rw [h3 i h7] at h6
        cases h6
      · subst h7
        rw [hp] at h6
        cases h6
    · simp only [List.countP_singleton, hp, Bool.not_true]
      refine ⟨by simp; omega, fun i hi => ?_⟩
      simp only [Bool.false_eq_true, if_false, Nat.add_zero]
      rcases Nat.lt_succ_iff_lt_or_eq.1 hi with h7 | h7
      · exact h2 i h7
      · subst h7
        exact ⟨fun _ => h1, fun _ => hp⟩

/-- What is read of the boxes. -/
structure PcBox (w : World) (X Y : Nat) (a : Option Addr) (n c : Nat) (l : List Gn) (L : List Lb) (za : Option Addr) (zc : Nat) : Prop where
  b1 : w.cell? ⟨X, 0, none⟩ = some (.slice a n c)
  b2 : w.cell? ⟨Y, 0, none⟩ = some (.slice za L.length zc)
  x1 : X < w.heap.size
  x2 : Y < w.heap.size
  row : RowAt w (.slice a n c) 3 n (gnC l)
  len : l.length = n
  ok : ∀ g ∈ l, GOk w g
  lab : LbAt w (.slice za L.length zc) L
  few : L.length ≤ 64
theorem PcBox.grow {w w' : World} {X Y : Nat} {a : Option Addr} {n c : Nat} {l : List Gn} {L : List Lb} {za : Option Addr} {zc : Nat} (h : PcBox w X Y a n c l L za zc) (hg : Below w.heap.size w w') : PcBox w' X Y a n c l L za zc :=
  ⟨(hg.cell (p := ⟨X, 0, none⟩) h.x1).trans h.b1, (hg.cell (p := ⟨Y, 0, none⟩) h.x2).trans h.b2, Nat.lt_of_lt_of_le h.x1 hg.size, Nat.lt_of_lt_of_le h.x2 hg.size, RowAt.below h.row hg, h.len, fun g hg' => (h.ok g hg').below hg, h.lab.below hg, h.few⟩
def pcP (l : List Gn) (L : List Lb) (i : Nat) : Int := match l[i]? with | some g => cmpL g.ls L | none => 0
theorem pcP_at {l : List Gn} {L : List Lb} {i : Nat} (hi : i < l.length) : pcP l L i = cmpL l[i].ls L := by simp [pcP, hi]

set_option maxRecDepth 100000 in
set_option maxHeartbeats 2000000 in
theorem pcClos1 (X Y : Nat) (a : Option Addr) (n c : Nat) (l : List Gn) (L : List Lb) (za : Option Addr) (zc : Nat) (w : World) (h : PcBox w X Y a n c l L za zc) (i : Nat) (hi : i < n) (_hn : n ≤ 1000) :
    Calls Tryz.prog 45 #[.int .i64 i, .pointer (some ⟨X, 0, none⟩), .pointer (some ⟨Y, 0, none⟩)] w fun e w' => e = .returned (.bool (decide (0 ≤ pcP l L i))) ∧ GrW w w' := by
  obtain ⟨b, o, rfl, hone⟩ := row3n h.row h.len i hi
  have hil : i < l.length := by rw [h.len]; exact hi
  have s1 := h.ok (l[i]'hil) (List.getElem_mem _)
  rw [pcP_at hil]
  generalize l[i]'hil = G at *
  obtain ⟨gv, gls, glo, ghi⟩ := G
  obtain ⟨ya, yc, hya, -⟩ := id s1.lab
  dsimp only at hya hone
  subst hya
  have HO : Hid (∀ W, GrW w W → W.cell? ⟨X, 0, none⟩ = some (.slice (some ⟨b, o, none⟩) n c) ∧ W.cell? ⟨Y, 0, none⟩ = some (.slice za L.length zc) ∧ W.cell? ⟨b, o + i * 3, none⟩ = some (.slice ya gls.length yc) ∧ GrW w W) := fun W hW => ⟨(hW.below.cell (p := ⟨X, 0, none⟩) h.x1).trans h.b1, (hW.below.cell (p := ⟨Y, 0, none⟩) h.x2).trans h.b2, (hone W hW.below).1, hW⟩
  have HC : Hid (∀ W, GrW w W → Calls Tryz.prog 23 #[.slice ya gls.length yc, .slice za L.length zc] W fun e w' => e = .returned (.int .i64 (cmpL gls L)) ∧ GrW w w') := fun W hW => (compare_g _ _ gls L W (s1.lab.below hW.below) (h.lab.below hW.below) (by have := s1.few; dsimp only at this; omega) (by have := h.few; omega)).mono fun e w' ⟨h1, h2⟩ => ⟨h1, hW.trans h2⟩
  obtain ⟨c0, c1, c2, hgr⟩ := HO.out w (GrW.refl _)
  have hd : GrW w w.drew := (GrW.refl w).drewN 1
  have HDR : Hid (GrW w w.drew) := hd
  have hil2 : (i : Int) < (n : Int) := by omega
  clear h hone s1
  dsimp only
  generalize cmpL gls L = cz at *
  go_enter Tryz.func45, Tryz.ntmps45
  go_wp2_with fail
  go_region_held3 (fun W => W.cell? ⟨X, 0, none⟩ = some (.slice (some ⟨b, o, none⟩) n c) ∧ W.cell? ⟨Y, 0, none⟩ = some (.slice za L.length zc) ∧ W.cell? ⟨b, o + i * 3, none⟩ = some (.slice ya gls.length yc) ∧ GrW w W)
    (first | (refine HO.out _ ?_; exact hd) | (refine HO.out _ ?_; assumption))
    (first | (go_at_call 23; refine (HC.out _ HDR.out).mono ?_; rintro e w2 ⟨rfl, hg2⟩))
  all_goals
    go_wp2_with fail
    go_ret
    exact ⟨by simp, hg2⟩

set_option maxRecDepth 100000 in
set_option maxHeartbeats 2000000 in
theorem pcClos2 (X Y : Nat) (a : Option Addr) (n c : Nat) (l : List Gn) (L : List Lb) (za : Option Addr) (zc : Nat) (w : World) (h : PcBox w X Y a n c l L za zc) (i : Nat) (hi : i < n) (_hn : n ≤ 1000) :
    Calls Tryz.prog 46 #[.int .i64 i, .pointer (some ⟨X, 0, none⟩), .pointer (some ⟨Y, 0, none⟩)] w fun e w' => e = .returned (.bool (decide (0 < pcP l L i))) ∧ GrW w w' := by
  obtain ⟨b, o, rfl, hone⟩ := row3n h.row h.len i hi
  have hil : i < l.length := by rw [h.len]; exact hi
  have s1 := h.ok (l[i]'hil) (List.getElem_mem _)
  rw [pcP_at hil]
  generalize l[i]'hil = G at *
  obtain ⟨gv, gls, glo, ghi⟩ := G
  obtain ⟨ya, yc, hya, -⟩ := id s1.lab
  dsimp only at hya hone
  subst hya
  have HO : Hid (∀ W, GrW w W → W.cell? ⟨X, 0, none⟩ = some (.slice (some ⟨b, o, none⟩) n c) ∧ W.cell? ⟨Y, 0, none⟩ = some (.slice za L.length zc) ∧ W.cell? ⟨b, o + i * 3, none⟩ = some (.slice ya gls.length yc) ∧ GrW w W) := fun W hW => ⟨(hW.below.cell (p := ⟨X, 0, none⟩) h.x1).trans h.b1, (hW.below.cell (p := ⟨Y, 0, none⟩) h.x2).trans h.b2, (hone W hW.below).1, hW⟩
  have HC : Hid (∀ W, GrW w W → Calls Tryz.prog 23 #[.slice ya gls.length yc, .slice za L.length zc] W fun e w' => e = .returned (.int .i64 (cmpL gls L)) ∧ GrW w w') := fun W hW => (compare_g _ _ gls L W (s1.lab.below hW.below) (h.lab.below hW.below) (by have := s1.few; dsimp only at this; omega) (by have := h.few; omega)).mono fun e w' ⟨h1, h2⟩ => ⟨h1, hW.trans h2⟩
  obtain ⟨c0, c1, c2, hgr⟩ := HO.out w (GrW.refl _)
  have hd : GrW w w.drew := (GrW.refl w).drewN 1
  have HDR : Hid (GrW w w.drew) := hd
  have hil2 : (i : Int) < (n : Int) := by omega
  clear h hone s1
  dsimp only
  generalize cmpL gls L = cz at *
  go_enter Tryz.func46, Tryz.ntmps46
  go_wp2_with fail
  go_region_held3 (fun W => W.cell? ⟨X, 0, none⟩ = some (.slice (some ⟨b, o, none⟩) n c) ∧ W.cell? ⟨Y, 0, none⟩ = some (.slice za L.length zc) ∧ W.cell? ⟨b, o + i * 3, none⟩ = some (.slice ya gls.length yc) ∧ GrW w W)
    (first | (refine HO.out _ ?_; exact hd) | (refine HO.out _ ?_; assumption))
    (first | (go_at_call 23; refine (HC.out _ HDR.out).mono ?_; rintro e w2 ⟨rfl, hg2⟩))
  all_goals
    go_wp2_with fail
    go_ret
    exact ⟨by simp, hg2⟩

/-- How many pieces stand ahead of the set's, and of those behind. -/
def fromC (l : List Gn) (L : List Lb) : Nat := (List.range l.length).countP fun i => !(decide (0 ≤ pcP l L i))
def toC (l : List Gn) (L : List Lb) : Nat := (List.range l.length).countP fun i => !(decide (0 < pcP l L i))
def SortL (l : List Gn) : Prop := ∀ a b (hb : b < l.length) (hab : a ≤ b), cmpL (l[a]'(by omega)).ls l[b].ls ≤ 0
theorem mono1 {l : List Gn} {L : List Lb} (h : SortL l) : ∀ a b, a ≤ b → b < l.length → decide (0 ≤ pcP l L a) = true → decide (0 ≤ pcP l L b) = true := fun a b hab hb h1 => by
  rw [decide_eq_true_eq] at *
  rw [pcP_at (by omega)] at *
  have h2 := h a b hb hab
  have h3 := tcL.anti L (l[a]'(by omega)).ls
  have h4 := tcL.anti L l[b].ls
  have := tcL.tr L (l[a]'(by omega)).ls l[b].ls (by omega) h2
  omega
theorem mono2 {l : List Gn} {L : List Lb} (h : SortL l) : ∀ a b, a ≤ b → b < l.length → decide (0 < pcP l L a) = true → decide (0 < pcP l L b) = true := fun a b hab hb h1 => by
  rw [decide_eq_true_eq] at *
  rw [pcP_at (by omega)] at *
  have h2 := h a b hb hab
  have h3 := tcL.anti L (l[a]'(by omega)).ls
  have h4 := tcL.anti L l[b].ls
  have := tcL.lt1 (show cmpL L (l[a]'(by omega)).ls < 0 by omega) h2
  omega
theorem fromTo {l : List Gn} {L : List Lb} (h : SortL l) : fromC l L ≤ toC l L ∧ toC l L ≤ l.length ∧ (∀ i (hi : i < l.length), l[i].ls = L ↔ (fromC l L ≤ i ∧ i < toC l L)) := by
  obtain ⟨a1, a2⟩ := cnt_mono (fun i => decide (0 ≤ pcP l L i)) l.length (mono1 h)
  obtain ⟨b1, b2⟩ := cnt_mono (fun i => decide (0 < pcP l L i)) l.length (mono2 h)
  have key : ∀ i (hi : i < l.length), l[i].ls = L ↔ (fromC l L ≤ i ∧ i < toC l L) := fun i hi => by
    have h1 := a2 i hi
    have h2 := b2 i hi
    rw [decide_eq_true_eq, pcP_at hi] at h1 h2
    have h3 := tcL.zero l[i].ls L
    unfold fromC toC
    constructor
    · intro e
      have := h3.2 e
      exact ⟨h1.1 (by omega), Nat.lt_of_not_le (fun h9 => by have := h2.2 h9; omega)⟩
    · rintro ⟨c1, c2⟩
      have := h1.2 c1
      exact h3.1 (by
        rcases Int.lt_or_le 0 (cmpL l[i].ls L) with h9 | h9
        · have := h2.1 h9
          omega
        · omega)
  refine ⟨?_, b1, key⟩
  rcases Nat.lt_or_ge (toC l L) (fromC l L) with h9 | h9
  · have hb : toC l L < l.length := by unfold fromC at h9; omega
    have h1 := a2 (toC l L) hb
    have h2 := (b2 (toC l L) hb).2 (Nat.le_refl _)
    rw [decide_eq_true_eq] at h1 h2
    have := h1.1 (by omega)
    unfold fromC at h9
    omega
  · exact h9
def subP (l : List Gn) (L : List Lb) : List Gn := (l.take (toC l L)).drop (fromC l L)
theorem subP_mem {l : List Gn} {L : List Lb} (h : SortL l) (g : Gn) : g ∈ subP l L ↔ g ∈ l ∧ g.ls = L := by
  obtain ⟨h1, h2, h3⟩ := fromTo (L := L) h
  unfold subP
  constructor
  · intro hg
    obtain ⟨i, hi, rfl⟩ := List.getElem_of_mem hg
    rw [List.length_drop, List.length_take] at hi
    rw [List.getElem_drop, List.getElem_take]
    exact ⟨List.getElem_mem _, (h3 _ (by omega)).2 ⟨by omega, by omega⟩⟩
  · rintro ⟨hg, e⟩
    obtain ⟨i, hi, rfl⟩ := List.getElem_of_mem hg
    obtain ⟨c1, c2⟩ := (h3 i hi).1 e
    rw [List.mem_drop_iff_getElem]
    refine ⟨i - fromC l L, by rw [List.length_take]; omega, ?_⟩
    rw [List.getElem_take]
    congr 1
    omega

end Go.Proofs.YtjnjmpfldbkciaaGreat
