/- The pair's Append, walked. -/
import Derived.Test.YtipakfdebccchaaMJ1
namespace Go.Proofs.Ytipakfdebccchaa
open Go.RowKit Go.Maps Go.Sort

section
variable (w : World) (p d r base k : Nat) (a : RA) (x : OpV) (bv : Value) (bs : List UInt8)
def A1 (V : World) (g c : Nat) : Prop := ∃ W, base ≤ W.heap.size ∧ W.heap.size ≤ g ∧ g < V.heap.size ∧ W.heap.size ≤ V.heap.size ∧ (∀ q, a.zone q → q < W.heap.size) ∧ MA w V p d r w.heap.size base x bv bs g c W.heap.size a.zone k a (a.withZ (newZ a.zone W V))
def A2 (V2 : World) (g c : Nat) : Prop := ∃ W V V1, base ≤ W.heap.size ∧ W.heap.size ≤ g ∧ g < V.heap.size ∧ (∀ q, a.zone q → q < W.heap.size) ∧ MA w V2 p d r w.heap.size base x bv bs g c W.heap.size (newZ a.zone V V1) (k + 1) (a.doAppend x.name bs).2 (a.withZ (newZ (newZ a.zone W V) V V1))
def A3 (V3 : World) (g c : Nat) : Prop := ∃ W V V1, base ≤ W.heap.size ∧ W.heap.size ≤ g ∧ g < V.heap.size ∧ (∀ q, a.zone q → q < W.heap.size) ∧ MA w V3 p d r w.heap.size base x bv bs g c W.heap.size (newZ a.zone V V1) (k + 1) (a.doAppend x.name bs).2 ((a.doAppend x.name bs).2.withZ (newZ (newZ a.zone W V) V V1))
end
section
variable {w : World} {p d r base k : Nat} {a : RA} {x : OpV} {bv : Value} {bs : List UInt8}
theorem A1.both {V : World} {g c : Nat} (h : A1 w p d r base k a x bv bs V g c) : Both p d r w.heap.size x 1 V := by
  obtain ⟨W, _, _, _, _, _, h⟩ := h
  exact h.both
theorem A2.both {V : World} {g c : Nat} (h : A2 w p d r base k a x bv bs V g c) : Both p d r w.heap.size x 1 V := by
  obtain ⟨W, V', V1, _, _, _, _, h⟩ := h
  exact h.both
theorem A1.drew {V : World} {g c : Nat} (h : A1 w p d r base k a x bv bs V g c) : A1 w p d r base k a x bv bs V.drew g c := by
  obtain ⟨W, h1, h2, h3, h4, h5, h⟩ := h
  exact ⟨W, h1, h2, h3, h4, h5, h.drew⟩
theorem A2.drew {V : World} {g c : Nat} (h : A2 w p d r base k a x bv bs V g c) : A2 w p d r base k a x bv bs V.drew g c := by
  obtain ⟨W, V', V1, h1, h2, h3, h4, h⟩ := h
  exact ⟨W, V', V1, h1, h2, h3, h4, h.drew⟩
end

section
variable {w : World} {p d r base k : Nat} {a : RA} (h : PW w p d r base k a) (hk : k ≤ 999) (x : OpV) (hbw : base ≤ w.heap.size) (hs : x.name.size ≤ maxLen) (ba : Option Addr) (bc : Nat) (bs : List UInt8) (hab : AB w base (.slice ba bs.length bc) bs) (hbl : bs.length ≤ 200)
include h hk hbw hs hab hbl

theorem app_1 (W : World) (hB : Both p d r w.heap.size x 1 W) (hW : PW W p d r base k a) (hw : Below w.heap.size w W) : Calls Try.prog 50 #[.slice ba bs.length bc] W fun e V => ∃ g c, e = .returned (.slice (some ⟨g, 0, none⟩) bs.length c) ∧ A1 w p d r base k a x (.slice ba bs.length bc) bs V g c ∧ bs.length ≤ c := by
  have h1 : base ≤ W.heap.size := Nat.le_trans hbw hw.size
  have hz : ∀ q, a.zone q → q < W.heap.size := fun q hq => by
    obtain ⟨s, fs, blk, hP⟩ := hW.prog
    exact (hP.zlo q hq).2
  refine (lend_any _ bs W (hab.below (hw.mono hbw)).1 (by omega)).mono ?_
  rintro e V ⟨g, c, he, hrow, hV⟩
  have h2 := hrow.lt g rfl
  exact ⟨g, c, he, ⟨W, h1, h2.1, h2.2, hV.size, hz, app_lent h hk x hbw hs ba bc bs hab hbl hB hW hw hrow hV⟩, by have := ownsRow_cap hrow; omega⟩
theorem app_2 (V : World) (g c : Nat) (h1 : A1 w p d r base k a x (.slice ba bs.length bc) bs V g c) : Calls Try.prog 34 #[.pointer (some ⟨d, 0, none⟩), .string x.name, .slice (some ⟨g, 0, none⟩) bs.length c] V fun e w1 => e = .returned (.int .i64 (a.doAppend x.name bs).1) ∧ A2 w p d r base k a x (.slice ba bs.length bc) bs w1 g c := by
  obtain ⟨W, h1, h2, h3, h4, h5, hM⟩ := h1
  refine (app_prog h hk x hbw hs ba bc bs hab hbl hM (fun e => by have := h5 g e; omega) h4).mono ?_
  rintro e w1 ⟨he, hM1⟩
  exact ⟨he, W, V, w1, h1, h2, h3, h5, hM1⟩
theorem app_3 (V2 : World) (g c : Nat) (h1 : A2 w p d r base k a x (.slice ba bs.length bc) bs V2 g c) : Calls Try.prog 51 #[.pointer (some ⟨r, 0, none⟩), .string x.name, .slice ba bs.length bc] V2 fun e w2 => e = .returned (.int .i64 (a.doAppend x.name bs).1) ∧ A3 w p d r base k a x (.slice ba bs.length bc) bs w2 g c := by
  obtain ⟨W, V, V1, h1, h2, h3, h5, hM⟩ := h1
  exact (app_doc h hk x hbw hs ba bc bs hab hbl hM).mono (fun e w2 ⟨he, hM1⟩ => ⟨he, W, V, V1, h1, h2, h3, h5, hM1⟩)
theorem app_4 (V3 : World) (g c : Nat) (h1 : A3 w p d r base k a x (.slice ba bs.length bc) bs V3 g c) : Calls Try.prog 52 #[.slice (some ⟨g, 0, none⟩) bs.length c, .slice ba bs.length bc] V3 fun e w3 => e = .returned (.bool true) ∧ Done w w3 p d r base k (a.doAppend x.name bs).2 := by
  obtain ⟨W, V, V1, h1, h2, h3, h5, hM⟩ := h1
  exact (intact_any g c _ bs _ V3 hM.row hM.ab.1 (by omega)).mono (fun e w3 ⟨he, hk3⟩ => ⟨he, app_done h hk x hbw hs ba bc bs hab hbl h1 h2 h3 h5 hM hk3⟩)
end

set_option maxRecDepth 100000 in
set_option maxHeartbeats 2000000 in
theorem op_append_short {w : World} {p d r base k : Nat} {a : RA} (h : PW w p d r base k a) (hk : k ≤ 999) (x : OpV) (hbw : base ≤ w.heap.size) (hs : x.name.size ≤ maxLen) (ba : Option Addr) (bc : Nat) (bs : List UInt8) (hab : AB w base (.slice ba bs.length bc) bs) (hbl : bs.length ≤ 200) (hx : x.bv = .slice ba bs.length bc) :
    Calls Try.prog 27 #[.pointer (some ⟨p, 0, none⟩), .agg #[.int .i64 1, .int .i64 x.n, .int .i64 x.k, .string x.name, .string x.dest, x.bv, x.cv]] w fun e w' => e = .returned (.bool true) ∧ Done w w' p d r base k (a.doAppend x.name bs).2 := by
  have H1 : Hid (∀ (W : World), Both p d r w.heap.size x 1 W → PW W p d r base k a → Below w.heap.size w W → Calls Try.prog 50 #[.slice ba bs.length bc] W fun e V => ∃ g c, e = .returned (.slice (some ⟨g, 0, none⟩) bs.length c) ∧ A1 w p d r base k a x (.slice ba bs.length bc) bs V g c ∧ bs.length ≤ c) := (app_1 h hk x hbw hs ba bc bs hab hbl)
  have H2 : Hid (∀ (V : World) (g c : Nat), A1 w p d r base k a x (.slice ba bs.length bc) bs V g c → Calls Try.prog 34 #[.pointer (some ⟨d, 0, none⟩), .string x.name, .slice (some ⟨g, 0, none⟩) bs.length c] V fun e w1 => e = .returned (.int .i64 (a.doAppend x.name bs).1) ∧ A2 w p d r base k a x (.slice ba bs.length bc) bs w1 g c) := (app_2 h hk x hbw hs ba bc bs hab hbl)
  have H3 : Hid (∀ (V2 : World) (g c : Nat), A2 w p d r base k a x (.slice ba bs.length bc) bs V2 g c → Calls Try.prog 51 #[.pointer (some ⟨r, 0, none⟩), .string x.name, .slice ba bs.length bc] V2 fun e w2 => e = .returned (.int .i64 (a.doAppend x.name bs).1) ∧ A3 w p d r base k a x (.slice ba bs.length bc) bs w2 g c) := (app_3 h hk x hbw hs ba bc bs hab hbl)
  have H4 : Hid (∀ (V3 : World) (g c : Nat), A3 w p d r base k a x (.slice ba bs.length bc) bs V3 g c → Calls Try.prog 52 #[.slice (some ⟨g, 0, none⟩) bs.length c, .slice ba bs.length bc] V3 fun e w3 => e = .returned (.bool true) ∧ Done w w3 p d r base k (a.doAppend x.name bs).2) := (app_4 h hk x hbw hs ba bc bs hab hbl)
  have HS : Hid (∀ w1, w1 = w.alloc (.cells #[.int .i64 1, .int .i64 x.n, .int .i64 x.k, .string x.name, .string x.dest, .slice ba bs.length bc, x.cv] 34) → Both p d r w.heap.size x 1 w1 ∧ PW w1 p d r base k a ∧ Below w.heap.size w w1) := fun w1 hw => by
    have hop : opCells x 1 = #[.int .i64 1, .int .i64 x.n, .int .i64 x.k, .string x.name, .string x.dest, .slice ba bs.length bc, x.cv] := by unfold opCells; rw [hx]
    rw [← hop] at hw
    subst hw
    have hb : Below w.heap.size w (w.alloc (.cells (opCells x 1) 34)) := (Below.refl _ w).alloc (Nat.le_refl _) _
    exact ⟨⟨(h.below hb).pair, heap_alloc_new w _⟩, h.below hb, hb⟩
  have hbl' : (bs.length : Int) ≤ 200 := by omega
  have HX : Hid (x.bv = .slice ba bs.length bc) := hx
  rw [hx]
  clear h hx hab
  generalize (a.doAppend x.name bs).1 = er at *
  generalize (a.doAppend x.name bs).2 = b at *
  go_enter Try.func27, Try.ntmps27
  go_wp2_with (go_at_call 50; obtain ⟨hB, hDd, hbel⟩ := HS.out _ rfl; refine (H1.out _ hB hDd hbel).mono ?_; rintro e V ⟨g, c, rfl, hA, hgc⟩; clear hB hDd hbel)
  refine goOn (S := fun V => A1 w p d r base k a x (.slice ba bs.length bc) bs V g c) hA ?_
  clear hA
  intro V hA
  have hB := hA.both
  obtain ⟨b0, b1, b2, b3, b4, b5, b6, b7, b8, _⟩ := hB.all
  go_wp2_with fail
  go_region_held3 (fun w' => w'.cell? ⟨p, 0, none⟩ = some (.pointer (some ⟨d, 0, none⟩)) ∧ w'.cell? ⟨p, 1, none⟩ = some (.pointer (some ⟨r, 0, none⟩)) ∧ w'.cell? ⟨w.heap.size, 0, none⟩ = some (.int .i64 1) ∧ w'.cell? ⟨w.heap.size, 1, none⟩ = some (.int .i64 x.n) ∧ w'.cell? ⟨w.heap.size, 2, none⟩ = some (.int .i64 x.k) ∧ w'.cell? ⟨w.heap.size, 3, none⟩ = some (.string x.name) ∧ w'.cell? ⟨w.heap.size, 4, none⟩ = some (.string x.dest) ∧ w'.cell? ⟨w.heap.size, 5, none⟩ = some x.bv ∧ w'.cell? ⟨w.heap.size, 6, none⟩ = some x.cv ∧ Both p d r w.heap.size x 1 w')
    (first | (refine Both.all ?_; exact hB) | (refine Both.all ?_; assumption))
    (first
      | (go_at_call 34; refine (H2.out _ g c hA.drew).mono ?_; rintro e w1 ⟨rfl, hA2⟩; have hB1 := hA2.both))
  all_goals
    refine goOn (S := fun V => A2 w p d r base k a x (.slice ba bs.length bc) bs V g c) hA2 ?_
    clear b0 b1 b2 b3 b4 b5 b6 b7 b8 hB hA hB1 hA2
    intro V2 hA
    have hB := hA.both
    obtain ⟨b0, b1, b2, b3, b4, b5, b6, b7, b8, _⟩ := hB.all
    go_wp2_with fail
    go_region_held3 (fun w' => w'.cell? ⟨p, 0, none⟩ = some (.pointer (some ⟨d, 0, none⟩)) ∧ w'.cell? ⟨p, 1, none⟩ = some (.pointer (some ⟨r, 0, none⟩)) ∧ w'.cell? ⟨w.heap.size, 0, none⟩ = some (.int .i64 1) ∧ w'.cell? ⟨w.heap.size, 1, none⟩ = some (.int .i64 x.n) ∧ w'.cell? ⟨w.heap.size, 2, none⟩ = some (.int .i64 x.k) ∧ w'.cell? ⟨w.heap.size, 3, none⟩ = some (.string x.name) ∧ w'.cell? ⟨w.heap.size, 4, none⟩ = some (.string x.dest) ∧ w'.cell? ⟨w.heap.size, 5, none⟩ = some x.bv ∧ w'.cell? ⟨w.heap.size, 6, none⟩ = some x.cv ∧ Both p d r w.heap.size x 1 w')
      (first | (refine Both.all ?_; exact hB) | (refine Both.all ?_; assumption))
      (first
        | (go_at_call 51; refine (H3.out _ g c hA.drew).mono ?_; rintro e w2 ⟨rfl, hA3⟩; have hB1 : Both p d r w.heap.size x 1 w2 := (by obtain ⟨_, _, _, _, _, _, _, hM⟩ := hA3; exact hM.both)))
    all_goals
      refine goOn (S := fun V => A3 w p d r base k a x (.slice ba bs.length bc) bs V g c) hA3 ?_
      clear b0 b1 b2 b3 b4 b5 b6 b7 b8 hB hA hB1 hA3
      intro V3 hA
      go_wp2_with (go_at_call 52; refine (H4.out _ g c hA).mono ?_; rintro e w3 ⟨rfl, hD3⟩)
      go_ret
      exact ⟨rfl, hD3⟩

set_option maxRecDepth 100000 in
set_option maxHeartbeats 2000000 in
theorem op_append_long {w : World} {p d r base k : Nat} {a : RA} (h : PW w p d r base k a) (hk : k ≤ 999) (x : OpV) (hbw : base ≤ w.heap.size) (hs : x.name.size ≤ maxLen) (ba : Option Addr) (bc : Nat) (bs : List UInt8) (hab : AB w base (.slice ba bs.length bc) bs) (bl : Nat) (hl : bs.length = 200) (hbg : (200 : Int) < (bl : Int)) (hbc : (200 : Int) ≤ (bc : Int)) (hx : x.bv = .slice ba bl bc) :
    Calls Try.prog 27 #[.pointer (some ⟨p, 0, none⟩), .agg #[.int .i64 1, .int .i64 x.n, .int .i64 x.k, .string x.name, .string x.dest, x.bv, x.cv]] w fun e w' => e = .returned (.bool true) ∧ Done w w' p d r base k (a.doAppend x.name bs).2 := by
  have H1 : Hid (∀ (W : World), Both p d r w.heap.size x 1 W → PW W p d r base k a → Below w.heap.size w W → Calls Try.prog 50 #[.slice ba 200 bc] W fun e V => ∃ g c, e = .returned (.slice (some ⟨g, 0, none⟩) bs.length c) ∧ A1 w p d r base k a x (.slice ba 200 bc) bs V g c ∧ bs.length ≤ c) := by have hbl : bs.length ≤ 200 := (by omega); rw [← hl]; exact (app_1 h hk x hbw hs ba bc bs hab hbl)
  have H2 : Hid (∀ (V : World) (g c : Nat), A1 w p d r base k a x (.slice ba 200 bc) bs V g c → Calls Try.prog 34 #[.pointer (some ⟨d, 0, none⟩), .string x.name, .slice (some ⟨g, 0, none⟩) bs.length c] V fun e w1 => e = .returned (.int .i64 (a.doAppend x.name bs).1) ∧ A2 w p d r base k a x (.slice ba 200 bc) bs w1 g c) := by have hbl : bs.length ≤ 200 := (by omega); rw [← hl]; exact (app_2 h hk x hbw hs ba bc bs hab hbl)
  have H3 : Hid (∀ (V2 : World) (g c : Nat), A2 w p d r base k a x (.slice ba 200 bc) bs V2 g c → Calls Try.prog 51 #[.pointer (some ⟨r, 0, none⟩), .string x.name, .slice ba 200 bc] V2 fun e w2 => e = .returned (.int .i64 (a.doAppend x.name bs).1) ∧ A3 w p d r base k a x (.slice ba 200 bc) bs w2 g c) := by have hbl : bs.length ≤ 200 := (by omega); rw [← hl]; exact (app_3 h hk x hbw hs ba bc bs hab hbl)
  have H4 : Hid (∀ (V3 : World) (g c : Nat), A3 w p d r base k a x (.slice ba 200 bc) bs V3 g c → Calls Try.prog 52 #[.slice (some ⟨g, 0, none⟩) bs.length c, .slice ba 200 bc] V3 fun e w3 => e = .returned (.bool true) ∧ Done w w3 p d r base k (a.doAppend x.name bs).2) := by have hbl : bs.length ≤ 200 := (by omega); rw [← hl]; exact (app_4 h hk x hbw hs ba bc bs hab hbl)
  have HS : Hid (∀ w1, w1 = w.alloc (.cells #[.int .i64 1, .int .i64 x.n, .int .i64 x.k, .string x.name, .string x.dest, .slice ba bl bc, x.cv] 34) → Both p d r w.heap.size x 1 w1 ∧ PW w1 p d r base k a ∧ Below w.heap.size w w1) := fun w1 hw => by
    have hop : opCells x 1 = #[.int .i64 1, .int .i64 x.n, .int .i64 x.k, .string x.name, .string x.dest, .slice ba bl bc, x.cv] := by unfold opCells; rw [hx]
    rw [← hop] at hw
    subst hw
    have hb : Below w.heap.size w (w.alloc (.cells (opCells x 1) 34)) := (Below.refl _ w).alloc (Nat.le_refl _) _
    exact ⟨⟨(h.below hb).pair, heap_alloc_new w _⟩, h.below hb, hb⟩
  clear hl
  have HX : Hid (x.bv = .slice ba bl bc) := hx
  rw [hx]
  clear h hx hab
  generalize (a.doAppend x.name bs).1 = er at *
  generalize (a.doAppend x.name bs).2 = b at *
  go_enter Try.func27, Try.ntmps27
  go_wp2_with (go_at_call 50; obtain ⟨hB, hDd, hbel⟩ := HS.out _ rfl; refine (H1.out _ hB hDd hbel).mono ?_; rintro e V ⟨g, c, rfl, hA, hgc⟩; clear hB hDd hbel)
  refine goOn (S := fun V => A1 w p d r base k a x (.slice ba 200 bc) bs V g c) hA ?_
  clear hA
  intro V hA
  have hB := hA.both
  obtain ⟨b0, b1, b2, b3, b4, b5, b6, b7, b8, _⟩ := hB.all
  go_wp2_with fail
  go_region_held3 (fun w' => w'.cell? ⟨p, 0, none⟩ = some (.pointer (some ⟨d, 0, none⟩)) ∧ w'.cell? ⟨p, 1, none⟩ = some (.pointer (some ⟨r, 0, none⟩)) ∧ w'.cell? ⟨w.heap.size, 0, none⟩ = some (.int .i64 1) ∧ w'.cell? ⟨w.heap.size, 1, none⟩ = some (.int .i64 x.n) ∧ w'.cell? ⟨w.heap.size, 2, none⟩ = some (.int .i64 x.k) ∧ w'.cell? ⟨w.heap.size, 3, none⟩ = some (.string x.name) ∧ w'.cell? ⟨w.heap.size, 4, none⟩ = some (.string x.dest) ∧ w'.cell? ⟨w.heap.size, 5, none⟩ = some x.bv ∧ w'.cell? ⟨w.heap.size, 6, none⟩ = some x.cv ∧ Both p d r w.heap.size x 1 w')
    (first | (refine Both.all ?_; exact hB) | (refine Both.all ?_; assumption))
    (first
      | (go_at_call 34; refine (H2.out _ g c hA.drew).mono ?_; rintro e w1 ⟨rfl, hA2⟩; have hB1 := hA2.both))
  all_goals
    refine goOn (S := fun V => A2 w p d r base k a x (.slice ba 200 bc) bs V g c) hA2 ?_
    clear b0 b1 b2 b3 b4 b5 b6 b7 b8 hB hA hB1 hA2
    intro V2 hA
    have hB := hA.both
    obtain ⟨b0, b1, b2, b3, b4, b5, b6, b7, b8, _⟩ := hB.all
    go_wp2_with fail
    go_region_held3 (fun w' => w'.cell? ⟨p, 0, none⟩ = some (.pointer (some ⟨d, 0, none⟩)) ∧ w'.cell? ⟨p, 1, none⟩ = some (.pointer (some ⟨r, 0, none⟩)) ∧ w'.cell? ⟨w.heap.size, 0, none⟩ = some (.int .i64 1) ∧ w'.cell? ⟨w.heap.size, 1, none⟩ = some (.int .i64 x.n) ∧ w'.cell? ⟨w.heap.size, 2, none⟩ = some (.int .i64 x.k) ∧ w'.cell? ⟨w.heap.size, 3, none⟩ = some (.string x.name) ∧ w'.cell? ⟨w.heap.size, 4, none⟩ = some (.string x.dest) ∧ w'.cell? ⟨w.heap.size, 5, none⟩ = some x.bv ∧ w'.cell? ⟨w.heap.size, 6, none⟩ = some x.cv ∧ Both p d r w.heap.size x 1 w')
      (first | (refine Both.all ?_; exact hB) | (refine Both.all ?_; assumption))
      (first
        | (go_at_call 51; refine (H3.out _ g c hA.drew).mono ?_; rintro e w2 ⟨rfl, hA3⟩; have hB1 : Both p d r w.heap.size x 1 w2 := (by obtain ⟨_, _, _, _, _, _, _, hM⟩ := hA3; exact hM.both)))
    all_goals
      refine goOn (S := fun V => A3 w p d r base k a x (.slice ba 200 bc) bs V g c) hA3 ?_
      clear b0 b1 b2 b3 b4 b5 b6 b7 b8 hB hA hB1 hA3
      intro V3 hA
      go_wp2_with (go_at_call 52; refine (H4.out _ g c hA).mono ?_; rintro e w3 ⟨rfl, hD3⟩)
      go_ret
      exact ⟨rfl, hD3⟩

end Go.Proofs.Ytipakfdebccchaa
