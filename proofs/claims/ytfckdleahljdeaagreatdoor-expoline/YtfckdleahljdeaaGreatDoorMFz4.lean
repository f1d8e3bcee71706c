/- The document's ReadLine: a line without a line end. -/
import Derived.Test.YtfckdleahljdeaaGreatDoorMFz3
namespace Go.Proofs.YtfckdleahljdeaaGreatDoor
open Go.RowKit Go.Maps
attribute [local go_sem] run_store_float

theorem nums_end {s N : ByteArray} {ls : List Lb} {i : Nat} (h : i = s.size) : numsR s N ls i = .bad i 8 := by
  subst h
  refine nums_bad ?_
  have e : tokP s.data.toList s.size = s.size := by
    unfold tokP
    exact runP_end (by rw [len_list]; exact Nat.le_refl _)
  rw [e, ext_nil, parse_none]
  decide
theorem refNumbers_any (X : Nat) (s name : ByteArray) (i q : Nat) (e bh : Int) (a1 a2 : Option Addr) (d1 d2 : Nat) (ls : List Lb) (w : World) (h : LnAt w X s i false q e (.slice a1 ls.length d1) (.slice a2 ls.length d2))
    (hn : w.ownsRow (X + 1) 9 1 (.slice a1 ls.length d1) ls.length (txCells (ls.map Prod.fst))) (hv : w.ownsRow (X + 1) 9 1 (.slice a2 ls.length d2) ls.length (txCells (ls.map Prod.snd)))
    (hi : i ≤ s.size) (hs : s.size ≤ 4000) (hlen : ls.length ≤ 800) (hz : Sized ((nameB, name) :: ls)) :
    Calls Tryz.prog 28 #[.pointer (some ⟨X, 0, none⟩), .string name, .int .i64 bh] w fun en w' => RdP w (if (i : Int) = bh then .bad i 8 else numsR s name ls i) en w' ∧ Kept (fun k => k = X) w w' := by
  by_cases hA : i = s.size ∨ (i : Int) = bh
  · have hr : (if (i : Int) = bh then LRes.bad i 8 else numsR s name ls i) = .bad i 8 := by
      rcases hA with hA | hA
      · rw [nums_end hA, ite_self]
      · rw [if_pos hA]
    rw [hr]
    exact refNumbers_end X s name i q e bh _ _ w h hi hs hA
  · rw [if_neg (fun h => hA (.inr h))]
    by_cases hp : (Nu.parseR (s.extract i (tokP s.data.toList i))).2 = 0
    · have hp2 : Nu.parseR (s.extract i (tokP s.data.toList i)) = ((Nu.parseR (s.extract i (tokP s.data.toList i))).1, 0) := Prod.ext rfl hp
      rw [nums_ok hp2]
      exact refNumbers_main X s name i q _ e bh a1 a2 d1 d2 ls w h hn hv (by omega) hs (fun h => hA (.inr h)) hp2 hlen hz
    · rw [nums_bad hp]
      exact refNumbers_no X s name i q e bh _ _ w h (by omega) hs (fun h => hA (.inr h)) hp

/-- The answer's box, and what was there stays. -/
structure RB (w W : World) : Prop where
  box : W.heap[w.heap.size]? = some (.cells #[.slice none 0 0, .float .f64 0, .int .i64 0, .bool false] 28)
  bel : Below w.heap.size w W
/-- The answer's box and the line under way. -/
structure RS (w : World) (s : ByteArray) (W : World) (p : Nat) (b : Bool) (q : Nat) (e : Int) (nm vl : Value) : Prop where
  ln : LnAt W (w.heap.size + 1) s p b q e nm vl
  rb : RB w W
section
variable {w W : World} {s : ByteArray} {p q : Nat} {b : Bool} {e : Int} {nm vl : Value}
theorem RB.bx (H : RB w W) : BoxX W w.heap.size 0 0 false :=
  ⟨by rw [cellOf H.box]; rfl, by rw [cellOf H.box]; rfl, by rw [cellOf H.box]; rfl, by rw [cellOf H.box]; rfl, frozenOf H.box, frozenOf H.box, frozenOf H.box, frozenOf H.box⟩
theorem RB.to {W' : World} (H : RB w W) (hk : Kept (fun k => k = w.heap.size + 1) W W') : RB w W' :=
  ⟨hk.heap H.box (by omega), ⟨hk.os.trans H.bel.os, hk.tape.trans H.bel.tape, hk.output.trans H.bel.output, Nat.le_trans H.bel.size hk.size, fun i hi => (hk.block i (Nat.lt_of_lt_of_le hi H.bel.size) (by omega)).trans (H.bel.block i hi)⟩⟩
theorem RS.to {W' : World} {p' q' : Nat} {b' : Bool} {e' : Int} {nm' vl' : Value} (H : RS w s W p b q e nm vl) (hk : Kept (fun k => k = w.heap.size + 1) W W') (hl : LnAt W' (w.heap.size + 1) s p' b' q' e' nm' vl') : RS w s W' p' b' q' e' nm' vl' := ⟨hl, H.rb.to hk⟩
theorem RS.setp (H : RS w s W p b q e nm vl) (p' : Nat) {v : Value} (hv : v = .int .i64 p') : RS w s (W.setCell ⟨w.heap.size + 1, 1, none⟩ v) p' b q e nm vl := H.to (keptX W _ 1 v) (H.ln.set1 p' hv)
theorem RB.again (H : RB w W) (x y z u : Value) :
    ((((W.setCell ⟨w.heap.size, 0, none⟩ x).setCell ⟨w.heap.size, 1, none⟩ y).setCell ⟨w.heap.size, 2, none⟩ z).setCell ⟨w.heap.size, 3, none⟩ u).heap[w.heap.size]? = some (.cells #[x, y, z, u] 28 (0, 0)) ∧ Below w.heap.size w ((((W.setCell ⟨w.heap.size, 0, none⟩ x).setCell ⟨w.heap.size, 1, none⟩ y).setCell ⟨w.heap.size, 2, none⟩ z).setCell ⟨w.heap.size, 3, none⟩ u) ∧ Kept (fun k => k = w.heap.size) W ((((W.setCell ⟨w.heap.size, 0, none⟩ x).setCell ⟨w.heap.size, 1, none⟩ y).setCell ⟨w.heap.size, 2, none⟩ z).setCell ⟨w.heap.size, 3, none⟩ u) :=
  ⟨setOf (setOf (setOf (setOf H.box _) _) _) _, (((H.bel.setCell (p := ⟨w.heap.size, 0, none⟩) (Nat.le_refl _) x).setCell (p := ⟨w.heap.size, 1, none⟩) (Nat.le_refl _) y).setCell (p := ⟨w.heap.size, 2, none⟩) (Nat.le_refl _) z).setCell (p := ⟨w.heap.size, 3, none⟩) (Nat.le_refl _) u,
    ((((Kept.refl (fun k => k = w.heap.size) W).setCell (p := ⟨w.heap.size, 0, none⟩) (fun _ => rfl) x).setCell (p := ⟨w.heap.size, 1, none⟩) (fun _ => rfl) y).setCell (p := ⟨w.heap.size, 2, none⟩) (fun _ => rfl) z).setCell (p := ⟨w.heap.size, 3, none⟩) (fun _ => rfl) u⟩
end
theorem RS.start (w : World) (s : ByteArray) : RS w s ((w.alloc (.cells #[.slice none 0 0, .float .f64 0, .int .i64 0, .bool false] 28)).alloc (.cells #[.string s, .int .i64 0, .bool false, .int .i64 0, .int .i64 0, .slice none 0 0, .slice none 0 0] 59)) 0 false 0 0 (.slice none 0 0) (.slice none 0 0) := by
  have b1 : Below w.heap.size w (w.alloc (.cells #[.slice none 0 0, .float .f64 0, .int .i64 0, .bool false] 28)) := (Below.refl _ _).alloc (Nat.le_refl _) _
  have x1 := heap_alloc_new w (.cells #[.slice none 0 0, .float .f64 0, .int .i64 0, .bool false] 28)
  have s1 : (w.alloc (.cells #[.slice none 0 0, .float .f64 0, .int .i64 0, .bool false] 28)).heap.size = w.heap.size + 1 := by simp
  generalize w.alloc (.cells #[.slice none 0 0, .float .f64 0, .int .i64 0, .bool false] 28) = W1 at *
  have b2 : Below W1.heap.size W1 (W1.alloc (.cells #[.string s, .int .i64 0, .bool false, .int .i64 0, .int .i64 0, .slice none 0 0, .slice none 0 0] 59)) := (Below.refl _ _).alloc (Nat.le_refl _) _
  refine ⟨?_, (b2.block _ (by omega)).trans x1, b1.trans (b2.mono b1.size)⟩
  rw [← s1]
  exact heap_alloc_new W1 _

set_option maxRecDepth 100000 in
theorem res_rd (tmps : Array Value) (b : Nat) (p e : Int) (hp : tmps.getD 2 undef = .pointer (some ⟨b, 0, none⟩)) (h3 : tmps.getD 3 undef = .int .i64 p) (h4 : tmps.getD 4 undef = .int .i64 e) (W : World) (v0 v1 v2 v3 : Value) (hb : W.heap[b]? = some (.cells #[v0, v1, v2, v3] 28 (0, 0))) :
    (results Tryz.f12 tmps).run Tryz.prog W = .ok (.tuple #[.agg #[v0, v1, v2, v3], .int .i64 p, .int .i64 e]) W := by
  have hp' : tmps[2]?.getD undef = .pointer (some ⟨b, 0, none⟩) := by simpa using hp
  have h3' : tmps[3]?.getD undef = .int .i64 p := by simpa using h3
  have h4' : tmps[4]?.getD undef = .int .i64 e := by simpa using h4
  have hc0 : W.cell? ⟨b, 0, none⟩ = some v0 := by simp [World.cell?, hb]
  have hc1 : W.cell? ⟨b, 1, none⟩ = some v1 := by simp [World.cell?, hb]
  have hc2 : W.cell? ⟨b, 2, none⟩ = some v2 := by simp [World.cell?, hb]
  have hc3 : W.cell? ⟨b, 3, none⟩ = some v3 := by simp [World.cell?, hb]
  simp [results, Tryz.results12, hp', h3', h4', go_sem, hc0, hc1, hc2, hc3]

/-- numbers in read's world: what is answered, and the box. -/
theorem numbers_rs {w W : World} {s name : ByteArray} {i q : Nat} {e bh : Int} {a1 a2 : Option Addr} {d1 d2 : Nat} {ls : List Lb} (H : RS w s W i false q e (.slice a1 ls.length d1) (.slice a2 ls.length d2))
    (hn : W.ownsRow (w.heap.size + 2) 9 1 (.slice a1 ls.length d1) ls.length (txCells (ls.map Prod.fst))) (hv : W.ownsRow (w.heap.size + 2) 9 1 (.slice a2 ls.length d2) ls.length (txCells (ls.map Prod.snd)))
    (hi : i ≤ s.size) (hs : s.size ≤ 4000) (hlen : ls.length ≤ 800) (hz : Sized ((nameB, name) :: ls)) {R : LRes} (hR : R = if (i : Int) = bh then .bad i 8 else numsR s name ls i) :
    Calls Tryz.prog 28 #[.pointer (some ⟨w.heap.size + 1, 0, none⟩), .string name, .int .i64 bh] W fun en w' => ∃ va vn vc v1 v2 v3 p er, en = .returned (.tuple #[.agg #[.slice va vn vc, .float .f64 v1, .int .i64 v2, .bool v3], .int .i64 p, .int .i64 er]) ∧ (∀ W', Kept (fun k => k = w.heap.size) w' W' → RdP w R (.returned (.tuple #[.agg #[.slice va vn vc, .float .f64 v1, .int .i64 v2, .bool v3], .int .i64 p, .int .i64 er])) W') ∧ RB w w' := by
  have h := refNumbers_any (w.heap.size + 1) s name i q e bh a1 a2 d1 d2 ls W H.ln hn hv hi hs hlen hz
  rw [← hR] at h
  refine h.mono ?_
  rintro en w' ⟨hP, hk⟩
  have hlt := H.ln.lt
  cases R with
  | bad p er =>
    obtain ⟨rfl, hne⟩ := hP
    exact ⟨_, _, _, _, _, _, _, _, rfl, fun W' _ => ⟨rfl, hne⟩, H.rb.to hk⟩
  | ok ms V T h9 =>
    obtain ⟨a, n, c, rfl, hr⟩ := hP
    exact ⟨_, _, _, _, _, _, _, _, rfl, fun W' hk2 => ⟨a, n, c, rfl, row_mono (hk2.ownsRow hr (fun j hj e => by have := row_lo hr j hj; omega)) (by omega)⟩, H.rb.to hk⟩

set_option maxRecDepth 100000 in
set_option maxHeartbeats 4000000 in
theorem refRead_any (s : ByteArray) (w : World) (hs : s.size ≤ 4000) (h10 : ∀ k (hk : k < s.size), s[k] ≠ 10) :
    Calls Tryz.prog 12 #[.string s] w fun en w' => RdP w (readR s) en w' ∧ Below w.heap.size w w' := by
  obtain ⟨i0, hi0⟩ : ∃ i0, i0 = skipP s.data.toList 0 := ⟨_, rfl⟩
  obtain ⟨i1, hi1⟩ : ∃ i1, i1 = wordP true s.data.toList i0 := ⟨_, rfl⟩
  obtain ⟨i2, hi2⟩ : ∃ i2, i2 = skipP s.data.toList i1 := ⟨_, rfl⟩
  obtain ⟨N, hN⟩ : ∃ N, N = s.extract i0 i1 := ⟨_, rfl⟩
  have l0 : i0 ≤ s.size := by rw [hi0]; exact sk_le (Nat.zero_le _)
  have l1 : i1 ≤ s.size := by rw [hi1]; exact wo_le l0
  have l01 : i0 ≤ i1 := by rw [hi1]; exact wo_ge true s i0
  have l2 : i2 ≤ s.size := by rw [hi2]; exact sk_le l1
  have hNs : N.size ≤ s.size := by rw [hN, ByteArray.size_extract]; omega
  have HS : Hid (RS w s ((w.alloc (.cells #[.slice none 0 0, .float .f64 0, .int .i64 0, .bool false] 28)).alloc (.cells #[.string s, .int .i64 0, .bool false, .int .i64 0, .int .i64 0, .slice none 0 0, .slice none 0 0] 59)) 0 false 0 0 (.slice none 0 0) (.slice none 0 0)) := RS.start w s
  have HSK0 : Hid (∀ W, Calls Tryz.prog 25 #[.string s, .int .i64 0] W fun e w' => e = .returned (.int .i64 i0) ∧ w' = W) := fun W => by
    rw [hi0]
    exact refSkip_any s 0 W (Nat.zero_le _) (by omega)
  have HWD : Hid (∀ W, Calls Tryz.prog 26 #[.string s, .int .i64 i0, .bool true] W fun e w' => e = .returned (.int .i64 i1) ∧ w' = W) := fun W => by
    rw [hi1]
    exact refWordP_any s i0 true W l0 (by omega)
  have HSK1 : Hid (∀ W, Calls Tryz.prog 25 #[.string s, .int .i64 i1] W fun e w' => e = .returned (.int .i64 i2) ∧ w' = W) := fun W => by
    rw [hi2]
    exact refSkip_any s i1 W l1 (by omega)
  obtain ⟨c0, c1, c2, c3, c4, c5, c6, f1, f2, f3, f4, f5, f6⟩ := HS.out.ln.x
  by_cases h1 : i1 = i0
  · have hR : readR s = .bad i0 8 := by
      unfold readR
      rw [← hi0, ← hi1, if_pos h1]
    rw [hR]
    clear hR hN hi0 hi1 hi2 l1 l2 hNs HSK1 h10
    subst h1
    go_enter Tryz.func12, Tryz.ntmps12
    go_upto_region 2 with fail
    refine goOn (S := fun W => RS w s W 0 false 0 0 (.slice none 0 0) (.slice none 0 0)) HS.out ?_
    clear HS c0 c1 c2 c3 c4 c5 c6 f1 f2 f3 f4 f5 f6
    intro WA hA
    have HS : Hid (RS w s WA 0 false 0 0 (.slice none 0 0) (.slice none 0 0)) := hA
    clear hA
    obtain ⟨c0, c1, c2, c3, c4, c5, c6, f1, f2, f3, f4, f5, f6⟩ := HS.out.ln.x
    go_wp2_with (first
      | (go_at_call 25; refine (HSK0.out _).mono ?_; clear HSK0 c0 c2 c3 c4 c5 c6 f2 f3 f4 f5 f6; rintro e w1 ⟨rfl, hw⟩; subst hw; have hl := HS.out.setp i1 (v := .int .i64 i1) rfl; clear HS; have HS : Hid (RS w s _ i1 false 0 0 (.slice none 0 0) (.slice none 0 0)) := hl; clear hl; obtain ⟨c0, c1, c2, c3, c4, c5, c6, f1, f2, f3, f4, f5, f6⟩ := HS.out.ln.x)
      | (go_at_call 26; refine (HWD.out _).mono ?_; clear HWD c0 c2 c3 c4 c5 c6 f2 f3 f4 f5 f6; rintro e w2 ⟨rfl, hw⟩; subst hw; have hl := HS.out.setp i1 (v := .int .i64 i1) rfl; clear HS; have HS : Hid (RS w s _ i1 false 0 0 (.slice none 0 0) (.slice none 0 0)) := hl; clear hl; obtain ⟨c0, c1, c2, c3, c4, c5, c6, f1, f2, f3, f4, f5, f6⟩ := HS.out.ln.x; obtain ⟨y0, y1, y2, y3, g0, g1, g2, g3⟩ := HS.out.rb.bx))
    have HF := HS.out.rb.again (.slice none 0 0) (.float .f64 0) (.int .i64 0) (.bool false)
    refine bodyPost_ret (res_rd _ w.heap.size i1 8 rfl rfl rfl _ _ _ _ _ HF.1) rfl ?_
    exact ⟨⟨rfl, by decide⟩, HF.2.1⟩
  · have hRd : readR s = (if s.data.toList[i2]? = some 123 then match labsR s (s.size + 1) (i2 + 1) [] with
      | .inl (p, e) => .bad p e
      | .inr (ls, p) => numsR s (s.extract i0 i1) ls (skipP s.data.toList p)
      else if i2 = i1 then .bad i2 8 else numsR s (s.extract i0 i1) [] i2) := by
      unfold readR
      rw [← hi0, ← hi1, if_neg h1, ← hi2]
      cases labsR s (s.size + 1) (i2 + 1) [] with
      | inl x => rfl
      | inr x => rfl
    have h1b : ((i1 : Int) == (i0 : Int)) = false := by simp; omega
    have HLE : Hid (i0 ≤ s.size ∧ i1 ≤ s.size ∧ i2 ≤ s.size) := ⟨l0, l1, l2⟩
    have HNS : Hid ((s.extract i0 i1).size ≤ 4000) := by show _ ≤ _; rw [ByteArray.size_extract]; omega
    clear hN hNs hi0 hi1 hi2
    by_cases h123 : s.data.toList[i2]? = some 123
    · have hlt : i2 < s.size := some_lt h123
      have hby := byteAt s i2 hlt
      have hat : s.data.toList[i2]? = some s[i2] := by rw [List.getElem?_eq_getElem (by simpa using hlt), hby]
      have hbl : s[i2].toNat < 256 := s[i2].toNat_lt
      have n123 : (s[i2].toNat : Int) = 123 := by
        have h9 : some s[i2] = some 123 := by rw [← hat, h123]
        rw [Option.some.inj h9]
        rfl
      have HLB : Hid (∀ W, RS w s W i2 false 0 0 (.slice none 0 0) (.slice none 0 0) → Calls Tryz.prog 27 #[.pointer (some ⟨w.heap.size + 1, 0, none⟩)] W fun en w' => (∃ v, en = .returned v) ∧ ((∃ j z er nm vl, readR s = .bad z er ∧ er ≠ 0 ∧ RS w s w' j true z er nm vl) ∨ (∃ a1 a2 d1 d2 ls z, readR s = numsR s (s.extract i0 i1) ls (skipP s.data.toList z) ∧ z ≤ s.size ∧ ls.length ≤ 800 ∧ Sized ((nameB, s.extract i0 i1) :: ls) ∧ RS w s w' z false 0 0 (.slice a1 ls.length d1) (.slice a2 ls.length d2) ∧ w'.ownsRow (w.heap.size + 2) 9 1 (.slice a1 ls.length d1) ls.length (txCells (ls.map Prod.fst)) ∧ w'.ownsRow (w.heap.size + 2) 9 1 (.slice a2 ls.length d2) ls.length (txCells (ls.map Prod.snd))))) := fun W hW => by
        refine (refLabels_any (w.heap.size + 1) s i2 0 0 W hW.ln hlt hs h10).mono ?_
        rintro en w' ⟨hv, hk, hQ⟩
        rw [if_pos h123] at hRd
        have hlw := hW.ln.lt
        cases hl : labsR s (s.size + 1) (i2 + 1) [] with
        | inl pe =>
          obtain ⟨z, er⟩ := pe
          rw [hl] at hQ hRd
          obtain ⟨j, nm, vl, hln⟩ := hQ
          have hze := labsR_err s _ _ _ z er (by omega) hl
          exact ⟨hv, .inl ⟨j, z, er, nm, vl, hRd, by omega, hW.to hk hln⟩⟩
        | inr lp =>
          obtain ⟨ls, z⟩ := lp
          rw [hl] at hQ hRd
          obtain ⟨a1, a2, d1, d2, hns⟩ := hQ
          obtain ⟨z1, z2, z3⟩ := labsR_size s _ _ [] ls z (by omega) hl (fun x hx => by cases hx)
          refine ⟨hv, .inr ⟨a1, a2, d1, d2, ls, z, hRd, z2, by simp at z3; omega, fun i hi => ?_, hW.to hk hns.ln, row_mono hns.nms (by omega), row_mono hns.vls (by omega)⟩⟩
          cases i with
          | zero => exact ⟨by show nameB.size ≤ _; unfold maxLen; decide, by show (s.extract i0 i1).size ≤ _; have := HNS.out; unfold maxLen; omega⟩
          | succ i =>
            have := z1 _ (List.getElem_mem (show i < ls.length by simpa using hi))
            simp only [List.getElem_cons_succ]
            unfold maxLen
            omega
      have HSK2 : Hid (∀ W z, z ≤ s.size → Calls Tryz.prog 25 #[.string s, .int .i64 z] W fun e w' => e = .returned (.int .i64 (skipP s.data.toList z : Nat)) ∧ w' = W) := fun W z hz => refSkip_any s z W hz (by omega)
      have HNU : Hid (∀ W a1 a2 d1 d2 ls z, readR s = numsR s (s.extract i0 i1) ls z → z ≤ s.size → ls.length ≤ 800 → Sized ((nameB, s.extract i0 i1) :: ls) → RS w s W z false 0 0 (.slice a1 ls.length d1) (.slice a2 ls.length d2) → W.ownsRow (w.heap.size + 2) 9 1 (.slice a1 ls.length d1) ls.length (txCells (ls.map Prod.fst)) → W.ownsRow (w.heap.size + 2) 9 1 (.slice a2 ls.length d2) ls.length (txCells (ls.map Prod.snd)) → Calls Tryz.prog 28 #[.pointer (some ⟨w.heap.size + 1, 0, none⟩), .string (s.extract i0 i1), .int .i64 (-1)] W fun en w' => ∃ va vn vc v1 v2 v3 p er, en = .returned (.tuple #[.agg #[.slice va vn vc, .float .f64 v1, .int .i64 v2, .bool v3], .int .i64 p, .int .i64 er]) ∧ (∀ W', Kept (fun k => k = w.heap.size) w' W' → RdP w (readR s) (.returned (.tuple #[.agg #[.slice va vn vc, .float .f64 v1, .int .i64 v2, .bool v3], .int .i64 p, .int .i64 er])) W') ∧ RB w w') := fun W a1 a2 d1 d2 ls z hr hz hl hsz hW r1 r2 => numbers_rs hW r1 r2 hz hs hl hsz (by rw [hr, if_neg (by omega)])
      obtain ⟨R, hR⟩ : ∃ R, R = readR s := ⟨_, rfl⟩
      rw [← hR] at HNU HLB ⊢
      clear hR hRd h10 hat hby h123
      go_enter Tryz.func12, Tryz.ntmps12
      go_upto_region 2 with fail
      refine goOn (S := fun W => RS w s W 0 false 0 0 (.slice none 0 0) (.slice none 0 0)) HS.out ?_
      clear HS c0 c1 c2 c3 c4 c5 c6 f1 f2 f3 f4 f5 f6
      intro WA hA
      have HS : Hid (RS w s WA 0 false 0 0 (.slice none 0 0) (.slice none 0 0)) := hA
      clear hA
      obtain ⟨c0, c1, c2, c3, c4, c5, c6, f1, f2, f3, f4, f5, f6⟩ := HS.out.ln.x
      go_upto_region 13 with (first
        | (go_at_call 25; refine (HSK0.out _).mono ?_; clear HSK0 c0 c2 c3 c4 c5 c6 f2 f3 f4 f5 f6; rintro e w1 ⟨rfl, hw⟩; subst hw; have hl := HS.out.setp i0 (v := .int .i64 i0) rfl; clear HS; have HS : Hid (RS w s _ i0 false 0 0 (.slice none 0 0) (.slice none 0 0)) := hl; clear hl; obtain ⟨c0, c1, c2, c3, c4, c5, c6, f1, f2, f3, f4, f5, f6⟩ := HS.out.ln.x)
        | (go_at_call 26; refine (HWD.out _).mono ?_; clear HWD c0 c2 c3 c4 c5 c6 f2 f3 f4 f5 f6; rintro e w2 ⟨rfl, hw⟩; subst hw; have hl := HS.out.setp i1 (v := .int .i64 i1) rfl; clear HS; have HS : Hid (RS w s _ i1 false 0 0 (.slice none 0 0) (.slice none 0 0)) := hl; clear hl; obtain ⟨c0, c1, c2, c3, c4, c5, c6, f1, f2, f3, f4, f5, f6⟩ := HS.out.ln.x)
        | (go_at_call 25; refine (HSK1.out _).mono ?_; clear HSK1 c0 c2 c3 c4 c5 c6 f2 f3 f4 f5 f6; rintro e w3 ⟨rfl, hw⟩; subst hw; have hl := HS.out.setp i2 (v := .int .i64 i2) rfl; clear HS; have HS : Hid (RS w s _ i2 false 0 0 (.slice none 0 0) (.slice none 0 0)) := hl; clear hl; obtain ⟨c0, c1, c2, c3, c4, c5, c6, f1, f2, f3, f4, f5, f6⟩ := HS.out.ln.x)
        | (go_at_call 27; refine (HLB.out _ HS.out).mono ?_; clear HLB HS c0 c1 c2 c3 c4 c5 c6 f1 f2 f3 f4 f5 f6; rintro en W5 ⟨⟨v, rfl⟩, HT⟩))
      rcases HT with ⟨j, z, er, nm, vl, hx, hne, hl⟩ | ⟨a1, a2, d1, d2, ls, z, hx, hz, hll, hsz, hl, r1, r2⟩
      · have HX : Hid (R = .bad z er ∧ er ≠ 0) := ⟨hx, hne⟩
        have HS : Hid (RS w s W5 j true z er nm vl) := hl
        clear hx hne hl HNU HSK2
        obtain ⟨c0, c1, c2, c3, c4, c5, c6, f1, f2, f3, f4, f5, f6⟩ := HS.out.ln.x
        obtain ⟨y0, y1, y2, y3, g0, g1, g2, g3⟩ := HS.out.rb.bx
        go_wp2_with fail
        go_region
        all_goals go_wp2
        all_goals
          have HF := HS.out.rb.again (.slice none 0 0) (.float .f64 0) (.int .i64 0) (.bool false)
          refine bodyPost_ret (res_rd _ w.heap.size z er rfl rfl rfl _ _ _ _ _ HF.1) rfl ?_
          rw [HX.out.1]
          exact ⟨⟨rfl, HX.out.2⟩, below_drewN HF.2.1 1⟩
      · obtain ⟨k, hk⟩ : ∃ k, k = skipP s.data.toList z := ⟨_, rfl⟩
        have hkl : k ≤ s.size := by rw [hk]; exact sk_le hz
        have HSK3 : Hid (∀ W, Calls Tryz.prog 25 #[.string s, .int .i64 z] W fun e w' => e = .returned (.int .i64 k) ∧ w' = W) := fun W => by
          rw [hk]
          exact HSK2.out W z hz
        have HS : Hid (RS w s W5 z false 0 0 (.slice a1 ls.length d1) (.slice a2 ls.length d2)) := hl
        have HNV : Hid (∀ v, v = Value.int .i64 k → Calls Tryz.prog 28 #[.pointer (some ⟨w.heap.size + 1, 0, none⟩), .string (s.extract i0 i1), .int .i64 (-1)] (W5.setCell ⟨w.heap.size + 1, 1, none⟩ v) fun en w' => ∃ va vn vc v1 v2 v3 p er, en = .returned (.tuple #[.agg #[.slice va vn vc, .float .f64 v1, .int .i64 v2, .bool v3], .int .i64 p, .int .i64 er]) ∧ (∀ W', Kept (fun k => k = w.heap.size) w' W' → RdP w R (.returned (.tuple #[.agg #[.slice va vn vc, .float .f64 v1, .int .i64 v2, .bool v3], .int .i64 p, .int .i64 er])) W') ∧ RB w w') := fun v hv => HNU.out _ a1 a2 d1 d2 ls k (by rw [hk]; exact hx) hkl hll hsz (hl.setp k hv) ((keptX W5 _ 1 v).ownsRow r1 (fun j hj e => by have := row_lo r1 j hj; omega)) ((keptX W5 _ 1 v).ownsRow r2 (fun j hj e => by have := row_lo r2 j hj; omega))
        clear hx hl hk r1 r2 HNU HSK2 hsz
        obtain ⟨c0, c1, c2, c3, c4, c5, c6, f1, f2, f3, f4, f5, f6⟩ := HS.out.ln.x
        go_wp2_with (first
          | (go_at_call 25; refine (HSK3.out _).mono ?_; clear HSK3 c0 c2 c3 c4 c5 c6 f2 f3 f4 f5 f6; rintro e w3 ⟨rfl, hw⟩; have hw := hw.symm; subst hw; have hl := HS.out.setp k (v := .int .i64 k) rfl; clear HS; have HS : Hid (RS w s _ k false 0 0 _ _) := hl; clear hl; obtain ⟨c0, c1, c2, c3, c4, c5, c6, f1, f2, f3, f4, f5, f6⟩ := HS.out.ln.x)
          | (go_at_call 28; refine (HNV.out _ rfl).mono ?_; clear HNV HS c0 c1 c2 c3 c4 c5 c6 f1 f2 f3 f4 f5 f6; rintro e w9 ⟨va, vn, vc, v1, v2, v3, pp, er, rfl, hP, hb⟩; have HP : Hid (∀ W', Kept (fun k => k = w.heap.size) w9 W' → RdP w _ (.returned (.tuple #[.agg #[.slice va vn vc, .float .f64 v1, .int .i64 v2, .bool v3], .int .i64 pp, .int .i64 er])) W') := hP; have HB : Hid (RB w w9) := hb; clear hP hb; obtain ⟨y0, y1, y2, y3, g0, g1, g2, g3⟩ := HB.out.bx))
        have HF := HB.out.again (.slice va vn vc) (.float .f64 v1) (.int .i64 v2) (.bool v3)
        refine bodyPost_ret (res_rd _ w.heap.size pp er rfl rfl rfl _ _ _ _ _ HF.1) rfl ?_
        exact ⟨HP.out _ HF.2.2, HF.2.1⟩
    · have HNU : Hid (∀ W, RS w s W i2 false 0 0 (.slice none 0 0) (.slice none 0 0) → True → Calls Tryz.prog 28 #[.pointer (some ⟨w.heap.size + 1, 0, none⟩), .string (s.extract i0 i1), .int .i64 i1] W fun en w' => ∃ va vn vc v1 v2 v3 p er, en = .returned (.tuple #[.agg #[.slice va vn vc, .float .f64 v1, .int .i64 v2, .bool v3], .int .i64 p, .int .i64 er]) ∧ (∀ W', Kept (fun k => k = w.heap.size) w' W' → RdP w (readR s) (.returned (.tuple #[.agg #[.slice va vn vc, .float .f64 v1, .int .i64 v2, .bool v3], .int .i64 p, .int .i64 er])) W') ∧ RB w w') := fun W hW _ => by
        refine numbers_rs (a1 := none) (a2 := none) (d1 := 0) (d2 := 0) (ls := []) hW (World.ownsRow_nil _ _ _ _) (World.ownsRow_nil _ _ _ _) HLE.out.2.2 hs (Nat.zero_le _) (fun i hi => ?_) ?_
        · obtain rfl : i = 0 := by simpa using hi
          exact ⟨by show nameB.size ≤ _; unfold maxLen; decide, by show (s.extract i0 i1).size ≤ _; have := HNS.out; unfold maxLen; omega⟩
        · rw [hRd, if_neg h123]
          by_cases h21 : i2 = i1
          · rw [if_pos h21, if_pos (by omega)]
          · rw [if_neg h21, if_neg (by omega)]
      obtain ⟨R, hR⟩ : ∃ R, R = readR s := ⟨_, rfl⟩
      rw [← hR] at HNU ⊢
      clear hR hRd h10
      by_cases hlt : i2 < s.size
      · have hby := byteAt s i2 hlt
        have hat : s.data.toList[i2]? = some s[i2] := by rw [List.getElem?_eq_getElem (by simpa using hlt), hby]
        have hbl : s[i2].toNat < 256 := s[i2].toNat_lt
        have n123 : ((s[i2].toNat : Int) == 123) = false := by
          have h9 : ((s[i2].toNat : Int) == ((123 : UInt8).toNat : Int)) = (s[i2] == 123) := u8_eq
          have h8 : (s[i2] == 123) = false := by
            have : ¬ s[i2] = 123 := fun h => h123 (by rw [hat, h])
            simpa using this
          rw [h8] at h9
          exact h9
        clear hat hby h123
        go_enter Tryz.func12, Tryz.ntmps12
        go_upto_region 2 with fail
        refine goOn (S := fun W => RS w s W 0 false 0 0 (.slice none 0 0) (.slice none 0 0)) HS.out ?_
        clear HS c0 c1 c2 c3 c4 c5 c6 f1 f2 f3 f4 f5 f6
        intro WA hA
        have HS : Hid (RS w s WA 0 false 0 0 (.slice none 0 0) (.slice none 0 0)) := hA
        clear hA
        obtain ⟨c0, c1, c2, c3, c4, c5, c6, f1, f2, f3, f4, f5, f6⟩ := HS.out.ln.x
        go_wp2_with (first
          | (go_at_call 25; refine (HSK0.out _).mono ?_; clear HSK0 c0 c2 c3 c4 c5 c6 f2 f3 f4 f5 f6; rintro e w1 ⟨rfl, hw⟩; subst hw; have hl := HS.out.setp i0 (v := .int .i64 i0) rfl; clear HS; have HS : Hid (RS w s _ i0 false 0 0 (.slice none 0 0) (.slice none 0 0)) := hl; clear hl; obtain ⟨c0, c1, c2, c3, c4, c5, c6, f1, f2, f3, f4, f5, f6⟩ := HS.out.ln.x)
          | (go_at_call 26; refine (HWD.out _).mono ?_; clear HWD c0 c2 c3 c4 c5 c6 f2 f3 f4 f5 f6; rintro e w2 ⟨rfl, hw⟩; subst hw; have hl := HS.out.setp i1 (v := .int .i64 i1) rfl; clear HS; have HS : Hid (RS w s _ i1 false 0 0 (.slice none 0 0) (.slice none 0 0)) := hl; clear hl; obtain ⟨c0, c1, c2, c3, c4, c5, c6, f1, f2, f3, f4, f5, f6⟩ := HS.out.ln.x)
          | (go_at_call 25; refine (HSK1.out _).mono ?_; clear HSK1 c0 c2 c3 c4 c5 c6 f2 f3 f4 f5 f6; rintro e w3 ⟨rfl, hw⟩; subst hw; have hl := HS.out.setp i2 (v := .int .i64 i2) rfl; clear HS; have HS : Hid (RS w s _ i2 false 0 0 (.slice none 0 0) (.slice none 0 0)) := hl; clear hl; obtain ⟨c0, c1, c2, c3, c4, c5, c6, f1, f2, f3, f4, f5, f6⟩ := HS.out.ln.x)
          | (go_at_call 28; refine (HNU.out _ HS.out trivial).mono ?_; clear HNU HS c0 c1 c2 c3 c4 c5 c6 f1 f2 f3 f4 f5 f6; rintro e w9 ⟨va, vn, vc, v1, v2, v3, pp, er, rfl, hP, hb⟩; have HP : Hid (∀ W', Kept (fun k => k = w.heap.size) w9 W' → RdP w _ (.returned (.tuple #[.agg #[.slice va vn vc, .float .f64 v1, .int .i64 v2, .bool v3], .int .i64 pp, .int .i64 er])) W') := hP; have HB : Hid (RB w w9) := hb; clear hP hb; obtain ⟨y0, y1, y2, y3, g0, g1, g2, g3⟩ := HB.out.bx))
        have HF := HB.out.again (.slice va vn vc) (.float .f64 v1) (.int .i64 v2) (.bool v3)
        refine bodyPost_ret (res_rd _ w.heap.size pp er rfl rfl rfl _ _ _ _ _ HF.1) rfl ?_
        exact ⟨HP.out _ HF.2.2, HF.2.1⟩
      · clear h123
        go_enter Tryz.func12, Tryz.ntmps12
        go_upto_region 2 with fail
        refine goOn (S := fun W => RS w s W 0 false 0 0 (.slice none 0 0) (.slice none 0 0)) HS.out ?_
        clear HS c0 c1 c2 c3 c4 c5 c6 f1 f2 f3 f4 f5 f6
        intro WA hA
        have HS : Hid (RS w s WA 0 false 0 0 (.slice none 0 0) (.slice none 0 0)) := hA
        clear hA
        obtain ⟨c0, c1, c2, c3, c4, c5, c6, f1, f2, f3, f4, f5, f6⟩ := HS.out.ln.x
        go_wp2_with (first
          | (go_at_call 25; refine (HSK0.out _).mono ?_; clear HSK0 c0 c2 c3 c4 c5 c6 f2 f3 f4 f5 f6; rintro e w1 ⟨rfl, hw⟩; subst hw; have hl := HS.out.setp i0 (v := .int .i64 i0) rfl; clear HS; have HS : Hid (RS w s _ i0 false 0 0 (.slice none 0 0) (.slice none 0 0)) := hl; clear hl; obtain ⟨c0, c1, c2, c3, c4, c5, c6, f1, f2, f3, f4, f5, f6⟩ := HS.out.ln.x)
          | (go_at_call 26; refine (HWD.out _).mono ?_; clear HWD c0 c2 c3 c4 c5 c6 f2 f3 f4 f5 f6; rintro e w2 ⟨rfl, hw⟩; subst hw; have hl := HS.out.setp i1 (v := .int .i64 i1) rfl; clear HS; have HS : Hid (RS w s _ i1 false 0 0 (.slice none 0 0) (.slice none 0 0)) := hl; clear hl; obtain ⟨c0, c1, c2, c3, c4, c5, c6, f1, f2, f3, f4, f5, f6⟩ := HS.out.ln.x)
          | (go_at_call 25; refine (HSK1.out _).mono ?_; clear HSK1 c0 c2 c3 c4 c5 c6 f2 f3 f4 f5 f6; rintro e w3 ⟨rfl, hw⟩; subst hw; have hl := HS.out.setp i2 (v := .int .i64 i2) rfl; clear HS; have HS : Hid (RS w s _ i2 false 0 0 (.slice none 0 0) (.slice none 0 0)) := hl; clear hl; obtain ⟨c0, c1, c2, c3, c4, c5, c6, f1, f2, f3, f4, f5, f6⟩ := HS.out.ln.x)
          | (go_at_call 28; refine (HNU.out _ HS.out trivial).mono ?_; clear HNU HS c0 c1 c2 c3 c4 c5 c6 f1 f2 f3 f4 f5 f6; rintro e w9 ⟨va, vn, vc, v1, v2, v3, pp, er, rfl, hP, hb⟩; have HP : Hid (∀ W', Kept (fun k => k = w.heap.size) w9 W' → RdP w _ (.returned (.tuple #[.agg #[.slice va vn vc, .float .f64 v1, .int .i64 v2, .bool v3], .int .i64 pp, .int .i64 er])) W') := hP; have HB : Hid (RB w w9) := hb; clear hP hb; obtain ⟨y0, y1, y2, y3, g0, g1, g2, g3⟩ := HB.out.bx))
        have HF := HB.out.again (.slice va vn vc) (.float .f64 v1) (.int .i64 v2) (.bool v3)
        refine bodyPost_ret (res_rd _ w.heap.size pp er rfl rfl rfl _ _ _ _ _ HF.1) rfl ?_
        exact ⟨HP.out _ HF.2.2, HF.2.1⟩
end Go.Proofs.YtfckdleahljdeaaGreatDoor
