/- Texts that belong together. -/
import Derived.Test.YtfckdleahljdeaaGreatDoorMFy4
import Derived.Test.YtfckdleahljdeaaGreatDoorMEy4
import Derived.Test.YtfckdleahljdeaaGreatDoorMHo
import Derived.Test.YtfckdleahljdeaaGreatDoorMLl
import Derived.Deep.CutRange
/- The document's numbers: what is under way. -/
namespace Go.Proofs.YtfckdleahljdeaaGreatDoor
open Go.RowKit Go.Maps
attribute [local go_sem] run_store_float

/-- The answer's box, the line that is made, the labels so far. -/
structure NuS (w : World) (X : Nat) (s : ByteArray) (q : Nat) (e : Int) (nm vl : Value) (W : World) (p : Nat) (o : Option (Nat × Int × Bool)) (r : Option (Value × List Lb)) : Prop where
  ln : LnAt W X s p false q e nm vl
  box : W.heap[w.heap.size]? = some (.cells #[.slice none 0 0, .float .f64 0, .int .i64 0, .bool false] 28)
  out : ∀ V T h, o = some (V, T, h) → W.heap[w.heap.size + 1]? = some (.cells #[.slice none 0 0, .float .f64 V, .int .i64 T, .bool h] 28)
  kept : Kept (fun k => k = X) w W
  row : ∀ v l, r = some (v, l) → W.ownsRow (w.heap.size + 2) 49 2 v l.length (lbCells l)
section
variable {w W : World} {X : Nat} {s : ByteArray} {q p : Nat} {e : Int} {nm vl : Value} {o : Option (Nat × Int × Bool)} {r : Option (Value × List Lb)}
theorem NuS.lt (H : NuS w X s q e nm vl W p o r) : w.heap.size < W.heap.size := (Array.getElem?_eq_some_iff.1 H.box).1
theorem NuS.bx (H : NuS w X s q e nm vl W p o r) : BoxX W w.heap.size 0 0 false :=
  ⟨by rw [cellOf H.box]; rfl, by rw [cellOf H.box]; rfl, by rw [cellOf H.box]; rfl, by rw [cellOf H.box]; rfl, frozenOf H.box, frozenOf H.box, frozenOf H.box, frozenOf H.box⟩
theorem NuS.ox {V : Nat} {T : Int} {h : Bool} (H : NuS w X s q e nm vl W p (some (V, T, h)) r) : BoxX W (w.heap.size + 1) V T h :=
  have B := H.out V T h rfl
  ⟨by rw [cellOf B]; rfl, by rw [cellOf B]; rfl, by rw [cellOf B]; rfl, by rw [cellOf B]; rfl, frozenOf B, frozenOf B, frozenOf B, frozenOf B⟩
theorem NuS.olt {V : Nat} {T : Int} {h : Bool} (H : NuS w X s q e nm vl W p (some (V, T, h)) r) : w.heap.size + 1 < W.heap.size := (Array.getElem?_eq_some_iff.1 (H.out V T h rfl)).1
theorem NuS.below {W' : World} (H : NuS w X s q e nm vl W p o r) (hb : Below W.heap.size W W') : NuS w X s q e nm vl W' p o r :=
  ⟨H.ln.below hb H.ln.lt, (hb.block _ H.lt).trans H.box, fun V T h ho => (hb.block _ (Array.getElem?_eq_some_iff.1 (H.out V T h ho)).1).trans (H.out V T h ho), H.kept.below hb, fun v l hr => row_below (H.row v l hr) hb⟩
theorem NuS.setp (H : NuS w X s q e nm vl W p o r) (hX : X < w.heap.size) (p' : Nat) {v : Value} (hv : v = .int .i64 p') : NuS w X s q e nm vl (W.setCell ⟨X, 1, none⟩ v) p' o r :=
  have k := keptX W X 1 v
  ⟨H.ln.set1 p' hv, k.heap H.box (by omega), fun V T h ho => k.heap (H.out V T h ho) (by omega), H.kept.two k, fun v l hr => k.ownsRow (H.row v l hr) (fun j hj e => by have := row_lo (H.row v l hr) j hj; omega)⟩
theorem NuS.seto {V V' : Nat} {T T' : Int} {h h' : Bool} (H : NuS w X s q e nm vl W p (some (V, T, h)) r) (hX : X < w.heap.size) (i : Nat) (v : Value) (hs : (#[.slice none 0 0, .float .f64 V, .int .i64 T, .bool h] : Array Value).setIfInBounds i v = #[.slice none 0 0, .float .f64 V', .int .i64 T', .bool h']) : NuS w X s q e nm vl (W.setCell ⟨w.heap.size + 1, i, none⟩ v) p (some (V', T', h')) r := by
  have k : Kept (fun k => k = w.heap.size + 1) W (W.setCell ⟨w.heap.size + 1, i, none⟩ v) := (Kept.refl (fun k => k = w.heap.size + 1) W).setCell (p := ⟨w.heap.size + 1, i, none⟩) (fun _ => rfl) v
  refine ⟨k.heap H.ln (by omega), k.heap H.box (by omega), fun V1 T1 h1 ho => ?_, H.kept.trans k (fun j hj e => by omega), fun v l hr => k.ownsRow (H.row v l hr) (fun j hj e => by have := row_lo (H.row v l hr) j hj; omega)⟩
  cases ho
  have := setOf (i := i) (H.out V T h rfl) v
  rw [hs] at this
  exact this
theorem NuS.setV {V : Nat} {T : Int} {h : Bool} (H : NuS w X s q e nm vl W p (some (V, T, h)) r) (hX : X < w.heap.size) (V' : Nat) : NuS w X s q e nm vl (W.setCell ⟨w.heap.size + 1, 1, none⟩ (.float .f64 V')) p (some (V', T, h)) r := H.seto hX 1 _ rfl
theorem NuS.setT {V : Nat} {T : Int} {h : Bool} (H : NuS w X s q e nm vl W p (some (V, T, h)) r) (hX : X < w.heap.size) (T' : Int) : NuS w X s q e nm vl (W.setCell ⟨w.heap.size + 1, 2, none⟩ (.int .i64 T')) p (some (V, T', h)) r := H.seto hX 2 _ rfl
theorem NuS.setH {V : Nat} {T : Int} {h : Bool} (H : NuS w X s q e nm vl W p (some (V, T, h)) r) (hX : X < w.heap.size) (h' : Bool) : NuS w X s q e nm vl (W.setCell ⟨w.heap.size + 1, 3, none⟩ (.bool h')) p (some (V, T, h')) r := H.seto hX 3 _ rfl
theorem NuS.lit {V : Nat} {T : Int} {h : Bool} (H : NuS w X s q e nm vl W p (some (V, T, h)) none) (name : ByteArray) : NuS w X s q e nm vl (W.alloc (.cells #[.string ⟨#[95, 95, 110, 97, 109, 101, 95, 95]⟩, .string name] 49)) p (some (V, T, h)) (some (.slice (some ⟨W.heap.size, 0, none⟩) 1 1, [(nameB, name)])) := by
  have H1 := H.below ((Below.refl _ _).alloc (Nat.le_refl _) (.cells #[.string ⟨#[95, 95, 110, 97, 109, 101, 95, 95]⟩, .string name] 49))
  have hl := H.olt
  refine ⟨H1.ln, H1.box, H1.out, H1.kept, fun v l hr => ?_⟩
  cases hr
  exact ⟨rfl, Or.inr ⟨W.heap.size, 1, _, rfl, by omega, heap_alloc_new W _, Nat.le_refl _, by unfold maxLen; decide, rfl, rfl⟩⟩
theorem NuS.again (H : NuS w X s q e nm vl W p o r) (_hX : X < w.heap.size) (a b c d : Value) :
    ((((W.setCell ⟨w.heap.size, 0, none⟩ a).setCell ⟨w.heap.size, 1, none⟩ b).setCell ⟨w.heap.size, 2, none⟩ c).setCell ⟨w.heap.size, 3, none⟩ d).heap[w.heap.size]? = some (.cells #[a, b, c, d] 28 (0, 0)) ∧ Kept (fun k => k = X) w ((((W.setCell ⟨w.heap.size, 0, none⟩ a).setCell ⟨w.heap.size, 1, none⟩ b).setCell ⟨w.heap.size, 2, none⟩ c).setCell ⟨w.heap.size, 3, none⟩ d) := by
  have k4 : Kept (fun k => k = w.heap.size) W ((((W.setCell ⟨w.heap.size, 0, none⟩ a).setCell ⟨w.heap.size, 1, none⟩ b).setCell ⟨w.heap.size, 2, none⟩ c).setCell ⟨w.heap.size, 3, none⟩ d) := ((((Kept.refl (fun k => k = w.heap.size) W).setCell (p := ⟨w.heap.size, 0, none⟩) (fun _ => rfl) a).setCell (p := ⟨w.heap.size, 1, none⟩) (fun _ => rfl) b).setCell (p := ⟨w.heap.size, 2, none⟩) (fun _ => rfl) c).setCell (p := ⟨w.heap.size, 3, none⟩) (fun _ => rfl) d
  exact ⟨setOf (setOf (setOf (setOf H.box _) _) _) _, H.kept.trans k4 (fun i hi e => by omega)⟩
/-- The set is laid, and the line answered. -/
theorem NuS.fin {V : Nat} {T : Int} {h : Bool} (H : NuS w X s q e nm vl W p (some (V, T, h)) r) (_hX : X < w.heap.size) (v a b c d : Value) :
    Kept (fun k => k = w.heap.size ∨ k = w.heap.size + 1) W (((((W.setCell ⟨w.heap.size + 1, 0, none⟩ v).setCell ⟨w.heap.size, 0, none⟩ a).setCell ⟨w.heap.size, 1, none⟩ b).setCell ⟨w.heap.size, 2, none⟩ c).setCell ⟨w.heap.size, 3, none⟩ d) ∧ (((((W.setCell ⟨w.heap.size + 1, 0, none⟩ v).setCell ⟨w.heap.size, 0, none⟩ a).setCell ⟨w.heap.size, 1, none⟩ b).setCell ⟨w.heap.size, 2, none⟩ c).setCell ⟨w.heap.size, 3, none⟩ d).heap[w.heap.size]? = some (.cells #[a, b, c, d] 28 (0, 0)) ∧ Kept (fun k => k = X) w (((((W.setCell ⟨w.heap.size + 1, 0, none⟩ v).setCell ⟨w.heap.size, 0, none⟩ a).setCell ⟨w.heap.size, 1, none⟩ b).setCell ⟨w.heap.size, 2, none⟩ c).setCell ⟨w.heap.size, 3, none⟩ d) := by
  have k5 : Kept (fun k => k = w.heap.size ∨ k = w.heap.size + 1) W (((((W.setCell ⟨w.heap.size + 1, 0, none⟩ v).setCell ⟨w.heap.size, 0, none⟩ a).setCell ⟨w.heap.size, 1, none⟩ b).setCell ⟨w.heap.size, 2, none⟩ c).setCell ⟨w.heap.size, 3, none⟩ d) := (((((Kept.refl (fun k => k = w.heap.size ∨ k = w.heap.size + 1) W).setCell (p := ⟨w.heap.size + 1, 0, none⟩) (fun _ => .inr rfl) v).setCell (p := ⟨w.heap.size, 0, none⟩) (fun _ => .inl rfl) a).setCell (p := ⟨w.heap.size, 1, none⟩) (fun _ => .inl rfl) b).setCell (p := ⟨w.heap.size, 2, none⟩) (fun _ => .inl rfl) c).setCell (p := ⟨w.heap.size, 3, none⟩) (fun _ => .inl rfl) d
  have k1 : Kept (fun k => k = w.heap.size + 1) W (W.setCell ⟨w.heap.size + 1, 0, none⟩ v) := (Kept.refl (fun k => k = w.heap.size + 1) W).setCell (p := ⟨w.heap.size + 1, 0, none⟩) (fun _ => rfl) v
  exact ⟨k5, setOf (setOf (setOf (setOf (k1.heap H.box (by omega)) _) _) _) _, H.kept.trans k5 (fun i hi e => by omega)⟩
theorem NuS.start {w : World} {X : Nat} {s : ByteArray} {q p : Nat} {e : Int} {nm vl : Value} (h : LnAt w X s p false q e nm vl) : NuS w X s q e nm vl ((w.alloc (.cells #[.slice none 0 0, .float .f64 0, .int .i64 0, .bool false] 28)).alloc (.cells #[.slice none 0 0, .float .f64 0, .int .i64 0, .bool false] 28)) p (some (0, 0, false)) none := by
  have b1 : Below w.heap.size w (w.alloc (.cells #[.slice none 0 0, .float .f64 0, .int .i64 0, .bool false] 28)) := (Below.refl _ _).alloc (Nat.le_refl _) _
  have x1 := heap_alloc_new w (.cells #[.slice none 0 0, .float .f64 0, .int .i64 0, .bool false] 28)
  have s1 : (w.alloc (.cells #[.slice none 0 0, .float .f64 0, .int .i64 0, .bool false] 28)).heap.size = w.heap.size + 1 := by simp
  have k1 : Kept (fun k => k = X) w (w.alloc (.cells #[.slice none 0 0, .float .f64 0, .int .i64 0, .bool false] 28)) := (Kept.refl _ _).alloc _
  generalize w.alloc (.cells #[.slice none 0 0, .float .f64 0, .int .i64 0, .bool false] 28) = W1 at *
  have b2 : Below W1.heap.size W1 (W1.alloc (.cells #[.slice none 0 0, .float .f64 0, .int .i64 0, .bool false] 28)) := (Below.refl _ _).alloc (Nat.le_refl _) _
  refine ⟨(h.below b1 h.lt).below b2 (by have := h.lt; omega), (b2.block _ (by omega)).trans x1, fun V T h ho => ?_, k1.below b2, fun v l hr => by cases hr⟩
  cases ho
  rw [← s1]
  exact heap_alloc_new W1 _
theorem NuS.start0 {w : World} {X : Nat} {s : ByteArray} {q p : Nat} {e : Int} {nm vl : Value} (h : LnAt w X s p false q e nm vl) : NuS w X s q e nm vl (w.alloc (.cells #[.slice none 0 0, .float .f64 0, .int .i64 0, .bool false] 28)) p none none :=
  ⟨h.below ((Below.refl _ _).alloc (Nat.le_refl _) _) h.lt, heap_alloc_new w _, (fun V T h ho => by cases ho), (Kept.refl _ _).alloc _, (fun v l hr => by cases hr)⟩
/-- A label more: the row grown. -/
theorem NuS.push {w1 : World} {V : Nat} {T : Int} {h : Bool} {v v' : Value} {l : List Lb} {x : Lb} (H : NuS w X s q e nm vl W p (some (V, T, h)) (some (v, l))) (hX : X < w.heap.size)
    (hr : w1.ownsRow (w.heap.size + 2) 49 2 v' (l.length + [x].length) (lbCells l ++ lbCells [x])) (hg : W.grownBy w1 v.ownBlock) : NuS w X s q e nm vl w1 p (some (V, T, h)) (some (v', l ++ [x])) := by
  have ho := H.olt
  have hx := H.ln.lt
  have hlo := row_lo (H.row v l rfl)
  refine ⟨?_, ?_, fun V1 T1 h1 e1 => ?_, ?_, fun v2 l2 e2 => ?_⟩
  · exact (hg.block X (by omega) (fun hk => by have := hlo X hk.symm; omega)).trans H.ln
  · exact (hg.block _ H.lt (fun hk => by have := hlo _ hk.symm; omega)).trans H.box
  · cases e1
    exact (hg.block _ ho (fun hk => by have := hlo _ hk.symm; omega)).trans (H.out V T h rfl)
  · exact H.kept.grown hg (fun k hk1 hk2 => by have := hlo k hk2; omega)
  · cases e2
    rw [List.length_append, lbCells_append]
    exact hr
end
set_option maxRecDepth 100000 in
theorem res_num (tmps : Array Value) (b : Nat) (p e : Int) (hp : tmps.getD 6 undef = .pointer (some ⟨b, 0, none⟩)) (h3 : tmps.getD 7 undef = .int .i64 p) (h4 : tmps.getD 8 undef = .int .i64 e) (W : World) (v0 v1 v2 v3 : Value) (hb : W.heap[b]? = some (.cells #[v0, v1, v2, v3] 28 (0, 0))) :
    (results Tryz.f28 tmps).run Tryz.prog W = .ok (.tuple #[.agg #[v0, v1, v2, v3], .int .i64 p, .int .i64 e]) W := by
  have hp' : tmps[6]?.getD undef = .pointer (some ⟨b, 0, none⟩) := by simpa using hp
  have h3' : tmps[7]?.getD undef = .int .i64 p := by simpa using h3
  have h4' : tmps[8]?.getD undef = .int .i64 e := by simpa using h4
  have hc0 : W.cell? ⟨b, 0, none⟩ = some v0 := by simp [World.cell?, hb]
  have hc1 : W.cell? ⟨b, 1, none⟩ = some v1 := by simp [World.cell?, hb]
  have hc2 : W.cell? ⟨b, 2, none⟩ = some v2 := by simp [World.cell?, hb]
  have hc3 : W.cell? ⟨b, 3, none⟩ = some v3 := by simp [World.cell?, hb]
  simp [results, Tryz.results28, hp', h3', h4', go_sem, hc0, hc1, hc2, hc3]
end Go.Proofs.YtfckdleahljdeaaGreatDoor

/- The document's numbers: walked. -/
namespace Go.Proofs.YtfckdleahljdeaaGreatDoor
open Go.RowKit Go.Maps
attribute [local go_sem] run_store_float

theorem parse_none : (Nu.parseR ⟨#[]⟩).2 = 8 := by kernel_rfl
theorem name_lit : nameB = ⟨#[95, 95, 110, 97, 109, 101, 95, 95]⟩ := by kernel_rfl
/-- What numbers answers. -/
noncomputable def nuR (s name : ByteArray) (ls : List Lb) (i : Nat) (bh : Int) : LRes := if i = s.size ∨ (i : Int) = bh then .bad i 8 else numsR s name ls i

set_option maxRecDepth 100000 in
set_option maxHeartbeats 4000000 in
theorem refNumbers_end (X : Nat) (s name : ByteArray) (i q : Nat) (e bh : Int) (nm vl : Value) (w : World) (h : LnAt w X s i false q e nm vl) (hi : i ≤ s.size) (_hs : s.size ≤ 4000) (hA : i = s.size ∨ (i : Int) = bh) :
    Calls Tryz.prog 28 #[.pointer (some ⟨X, 0, none⟩), .string name, .int .i64 bh] w fun en w' => RdP w (.bad i 8) en w' ∧ Kept (fun k => k = X) w w' := by
  have hX : X < w.heap.size := h.lt
  have HX : Hid (X < w.heap.size) := hX
  have HS : Hid (NuS w X s q e nm vl (w.alloc (.cells #[.slice none 0 0, .float .f64 0, .int .i64 0, .bool false] 28)) i none none) := NuS.start0 h
  obtain ⟨c0, c1, c2, c3, c4, c5, c6, f1, f2, f3, f4, f5, f6⟩ := HS.out.ln.x
  obtain ⟨y0, y1, y2, y3, g0, g1, g2, g3⟩ := HS.out.bx
  clear h
  by_cases h1 : i = s.size
  · subst h1
    clear hA
    go_enter Tryz.func28, Tryz.ntmps28
    go_wp2
    go_region
    all_goals go_wp2
    all_goals
      refine bodyPost_ret (res_num _ w.heap.size s.size 8 rfl rfl rfl _ _ _ _ _ HS.out.box) rfl ?_
      exact ⟨⟨rfl, by decide⟩, HS.out.kept.drewN 1⟩
  · have h1i : (i : Int) < s.size := by omega
    obtain rfl : bh = (i : Int) := by omega
    clear hA
    go_enter Tryz.func28, Tryz.ntmps28
    go_wp2
    go_region
    all_goals go_wp2
    all_goals
      refine bodyPost_ret (res_num _ w.heap.size i 8 rfl rfl rfl _ _ _ _ _ HS.out.box) rfl ?_
      exact ⟨⟨rfl, by decide⟩, HS.out.kept.drewN 1⟩

set_option maxRecDepth 100000 in
set_option maxHeartbeats 4000000 in
theorem refNumbers_no (X : Nat) (s name : ByteArray) (i q : Nat) (e bh : Int) (nm vl : Value) (w : World) (h : LnAt w X s i false q e nm vl) (hi : i < s.size) (hs : s.size ≤ 4000) (hA : (i : Int) ≠ bh) (hP : (Nu.parseR (s.extract i (tokP s.data.toList i))).2 ≠ 0) :
    Calls Tryz.prog 28 #[.pointer (some ⟨X, 0, none⟩), .string name, .int .i64 bh] w fun en w' => RdP w (.bad i 8) en w' ∧ Kept (fun k => k = X) w w' := by
  have hX : X < w.heap.size := h.lt
  have HX : Hid (X < w.heap.size) := hX
  have HS : Hid (NuS w X s q e nm vl ((w.alloc (.cells #[.slice none 0 0, .float .f64 0, .int .i64 0, .bool false] 28)).alloc (.cells #[.slice none 0 0, .float .f64 0, .int .i64 0, .bool false] 28)) i (some (0, 0, false)) none) := NuS.start h
  have HS0 : Hid (NuS w X s q e nm vl (w.alloc (.cells #[.slice none 0 0, .float .f64 0, .int .i64 0, .bool false] 28)) i none none) := NuS.start0 h
  have hAb : ((i : Int) == bh) = false := by simpa using hA
  have hii : (i : Int) < s.size := by omega
  have t1 := to_ge s i
  have t2 := to_le (s := s) (i := i) (by omega)
  obtain ⟨j, hj⟩ : ∃ j, j = tokP s.data.toList i := ⟨_, rfl⟩
  rw [← hj] at t1 t2 hP
  have HTK : Hid (∀ W, Calls Tryz.prog 46 #[.string s, .int .i64 i] W fun e w' => e = .returned (.int .i64 j) ∧ w' = W) := fun W => by
    rw [hj]
    exact refToken_any s i W (by omega) (by omega)
  have HPA : Hid (∀ W, Calls Tryz.prog 47 #[.string (s.extract i j)] W fun e w' => e = .returned (.tuple #[.float .f64 (Nu.parseR (s.extract i j)).1, .int .i64 (Nu.parseR (s.extract i j)).2]) ∧ Below W.heap.size W w') := fun W => Nu.refParse_any _ W (by rw [ByteArray.size_extract]; unfold maxLen; omega)
  generalize (Nu.parseR (s.extract i j)).1 = V at *
  generalize (Nu.parseR (s.extract i j)).2 = E at *
  have q1 := no_eq hP
  have q2 := ne_eq hP
  obtain ⟨c0, c1, c2, c3, c4, c5, c6, f1, f2, f3, f4, f5, f6⟩ := HS0.out.ln.x
  clear h hj hP hA HS0
  go_enter Tryz.func28, Tryz.ntmps28
  go_wp2_with (first
    | (go_at_call 46; refine (HTK.out _).mono ?_; clear HTK c0 c1 c2 c3 c4 c5 c6 f1 f2 f3 f4 f5 f6; rintro e w1 ⟨rfl, hw⟩; subst hw; obtain ⟨c0, c1, c2, c3, c4, c5, c6, f1, f2, f3, f4, f5, f6⟩ := HS.out.ln.x)
    | (go_at_call 47; refine (HPA.out _).mono ?_; clear HPA c0 c1 c2 c3 c4 c5 c6 f1 f2 f3 f4 f5 f6; rintro e w2 ⟨rfl, hb⟩; have hl := HS.out.below hb; clear hb HS; have HS : Hid (NuS w X s q _ nm vl w2 i (some (0, 0, false)) none) := hl; clear hl; obtain ⟨c0, c1, c2, c3, c4, c5, c6, f1, f2, f3, f4, f5, f6⟩ := HS.out.ln.x; obtain ⟨y0, y1, y2, y3, g0, g1, g2, g3⟩ := HS.out.bx))
  go_region
  all_goals go_wp2
  all_goals
    have HF := HS.out.again HX.out (.slice none 0 0) (.float .f64 0) (.int .i64 0) (.bool false)
    refine bodyPost_ret (res_num _ w.heap.size i 8 rfl rfl rfl _ _ _ _ _ HF.1) rfl ?_
    exact ⟨⟨rfl, by decide⟩, HF.2.drewN 1⟩
end Go.Proofs.YtfckdleahljdeaaGreatDoor
