/- A cursor on a line: a label. -/
import Derived.Test.YtfckdleahljdeaaGreatDoorMEx6
import Derived.Test.YtfckdleahljdeaaGreatDoorMGk
import Derived.Laws.ResultCell
namespace Go.Proofs.YtfckdleahljdeaaGreatDoor
open Go.RowKit Go.Maps

/-- The length up to which the library seeks at once lies there. -/
def MaxL (w : World) : Prop := ∃ m, w.cell? ⟨1, 0, none⟩ = some (.int .i64 m)
theorem MaxL.below {w w' : World} (h : MaxL w) (hb : Below w.heap.size w w') : MaxL w' := by
  obtain ⟨m, hm⟩ := h
  exact ⟨m, (hb.cell (p := ⟨1, 0, none⟩) (World.block_lt_of_cell? w _ hm)).trans hm⟩
/-- The library's tables lie below a block. -/
def Env (w : World) (B : Nat) : Prop := ∀ W, Below B w W → Tabs W ∧ Nu.Pow W ∧ Nu.Errs W ∧ MaxL W
theorem Env.of {w : World} (h1 : Tabs w) (h2 : Nu.Pow w) (h3 : Nu.Errs w) (h4 : MaxL w) : Env w w.heap.size := fun _ hb => ⟨h1.below hb, h2.below hb, h3.below hb, h4.below hb⟩
theorem Env.below {w w' : World} {B : Nat} (h : Env w B) (hb : Below B w w') : Env w' B := fun W hW => h W (hb.trans hW)
theorem Env.kept {w w' : World} {B U : Nat} (h : Env w B) (hk : Kept (fun k => k = U) w w') (hB : B ≤ U) (hw : B ≤ w.heap.size) : Env w' B := h.below (hk.toBelow hw (fun i hi => by omega))
theorem Env.here {w : World} {B : Nat} (h : Env w B) : Tabs w ∧ Nu.Pow w ∧ Nu.Errs w ∧ MaxL w := h w (Below.refl _ _)

/-- While a label is read: the cursor, the label's own box. -/
structure LabS (w W : World) (U L : Nat) (s : ByteArray) (j : Nat) (c : Array Value) : Prop where
  cur : Cur W U s j
  box : W.heap[L]? = some (.cells c 49)
  kept : Kept (fun k => k = U) w W
theorem LabS.move {w W W' : World} {U L : Nat} {s : ByteArray} {j j' : Nat} {c : Array Value} (h : LabS w W U L s j c) (hL : L ≠ U) (hk : Kept (fun k => k = U) W W') (hc : Cur W' U s j') : LabS w W' U L s j' c := ⟨hc, hk.heap h.box hL, h.kept.trans hk (fun _ _ h => h)⟩
theorem LabS.below {w W W' : World} {U L : Nat} {s : ByteArray} {j : Nat} {c : Array Value} (h : LabS w W U L s j c) (hb : Below W.heap.size W W') : LabS w W' U L s j c := ⟨h.cur.below hb h.cur.lt, (hb.block L (Array.getElem?_eq_some_iff.1 h.box).1).trans h.box, h.kept.below hb⟩
theorem LabS.drewN {w W : World} {U L : Nat} {s : ByteArray} {j : Nat} {c : Array Value} (h : LabS w W U L s j c) (q : Nat) : LabS w (W.drewN q) U L s j c := ⟨h.cur, h.box, h.kept.drewN q⟩
theorem LabS.set {w W : World} {U L : Nat} {s : ByteArray} {j : Nat} {c : Array Value} (h : LabS w W U L s j c) (hL : L ≠ U) (hw : w.heap.size ≤ L) (i : Nat) (v : Value) : LabS w (W.setCell ⟨L, i, none⟩ v) U L s j (c.setIfInBounds i v) :=
  ⟨(Below.heap_setCell W ⟨L, i, none⟩ v U (fun e => hL e.symm)).trans h.cur, setOf h.box v, h.kept.setCell (p := ⟨L, i, none⟩) (fun e => absurd e (by show ¬ L < _; omega)) v⟩
theorem LabS.seek {w W : World} {U L : Nat} {s : ByteArray} {j : Nat} {c : Array Value} (h : LabS w W U L s j c) (hL : L ≠ U) (k : Nat) {v : Value} (hv : v = .int .i64 k) : LabS w (W.setCell ⟨U, 1, none⟩ v) U L s k c :=
  h.move hL ((Kept.refl (fun k => k = U) W).setCell (p := ⟨U, 1, none⟩) (fun _ => rfl) v) (h.cur.set k hv)

theorem LabS.x {w W : World} {U L : Nat} {s : ByteArray} {j : Nat} {a b : Value} (h : LabS w W U L s j #[a, b]) : W.cell? ⟨L, 0, none⟩ = some a ∧ W.cell? ⟨L, 1, none⟩ = some b ∧ W.frozen? ⟨L, 0, none⟩ = false ∧ W.frozen? ⟨L, 1, none⟩ = false :=
  ⟨by rw [cellOf h.box]; rfl, by rw [cellOf h.box]; rfl, frozenOf h.box, frozenOf h.box⟩

set_option maxRecDepth 100000 in
theorem res_lab (tmps : Array Value) (b : Nat) (e : Int) (hp : tmps.getD 2 undef = .pointer (some ⟨b, 0, none⟩)) (h3 : tmps.getD 3 undef = .int .i64 e) (W : World) (v0 v1 : Value) (hb : W.heap[b]? = some (.cells #[v0, v1] 49 (0, 0))) :
    (results Tryz.f37 tmps).run Tryz.prog W = .ok (.tuple #[.agg #[v0, v1], .int .i64 e]) W := by
  rw [results_cell_tmp Tryz.results37]
  have hp' : tmps[2]?.getD undef = .pointer (some ⟨b, 0, none⟩) := by simpa using hp
  have h3' : tmps[3]?.getD undef = .int .i64 e := by simpa using h3
  have hc0 : W.cell? ⟨b, 0, none⟩ = some v0 := by simp [World.cell?, hb]
  have hc1 : W.cell? ⟨b, 1, none⟩ = some v1 := by simp [World.cell?, hb]
  simp [hp', h3', go_sem, hc0, hc1]

/-- What is answered of a label. -/
def labE (R : (Nat × Int) ⊕ (Lb × Nat)) : Ending := match R with
  | .inl (_, e) => .returned (.tuple #[.agg #[.string ⟨#[]⟩, .string ⟨#[]⟩], .int .i64 e])
  | .inr (x, _) => .returned (.tuple #[.agg #[.string x.1, .string x.2], .int .i64 0])
def labA (R : (Nat × Int) ⊕ (Lb × Nat)) : Nat := match R with
  | .inl (p, _) => p
  | .inr (_, p) => p

set_option maxRecDepth 100000 in
set_option maxHeartbeats 4000000 in
theorem label_any (B U : Nat) (s : ByteArray) (i : Nat) (w : World) (h : Cur w U s i) (hB : B ≤ U) (hE : Env w B) (hi : i ≤ s.size) (hs : s.size ≤ 1000000000) : Calls Tryz.prog 37 #[.pointer (some ⟨U, 0, none⟩)] w fun e w' => e = labE (labR s i) ∧ Cur w' U s (labA (labR s i)) ∧ Kept (fun k => k = U) w w' := by
  obtain ⟨R, hR⟩ : ∃ R, R = labR s i := ⟨_, rfl⟩
  rw [← hR]
  unfold labR at hR
  have hU := h.lt
  have HL0 : Hid (LabS w (w.alloc (.cells #[.string ⟨#[]⟩, .string ⟨#[]⟩] 49 (0, 0))) U w.heap.size s i #[.string ⟨#[]⟩, .string ⟨#[]⟩]) := ⟨h.below ((Below.refl _ _).alloc (Nat.le_refl _) _) hU, heap_alloc_new w _, (Kept.refl _ _).alloc _⟩
  have hne : w.heap.size ≠ U := by omega
  have hwB : B ≤ w.heap.size := by omega
  have HE : Hid (∀ W, Kept (fun k => k = U) w W → Tabs W) := fun W hk => (hE.kept hk hB hwB).here.1
  have HNm : Hid (∀ W, LabS w W U w.heap.size s i #[.string ⟨#[]⟩, .string ⟨#[]⟩] → Calls Tryz.prog 18 #[.pointer (some ⟨U, 0, none⟩), .bool false] W fun e w' => e = .returned (.string (s.extract i (wordP false s.data.toList i))) ∧ LabS w w' U w.heap.size s (wordP false s.data.toList i) #[.string ⟨#[]⟩, .string ⟨#[]⟩]) := fun W hW => (name_any U s i false W hW.cur hi hs).mono (by rintro e w' ⟨he, hc, hk⟩; exact ⟨he, hW.move hne hk hc⟩)
  have HBl : Hid (∀ j, j ≤ s.size → ∀ W, LabS w W U w.heap.size s j #[.string ⟨#[]⟩, .string ⟨#[]⟩] → Calls Tryz.prog 17 #[.pointer (some ⟨U, 0, none⟩)] W fun e w' => (∃ b, e = .returned (.bool b)) ∧ LabS w w' U w.heap.size s (skipP s.data.toList j) #[.string ⟨#[]⟩, .string ⟨#[]⟩]) := fun j hj W hW => (blanks_any U s j W hW.cur hj hs).mono (by rintro e w' ⟨he, hc, hk⟩; exact ⟨⟨_, he⟩, hW.move hne hk hc⟩)
  have w1 := wo_ge false s i
  have w2 := wo_le (co := false) hi
  have k2 := sk_le w2
  clear h hE hU
  by_cases h1 : wordP false s.data.toList i = i
  · rw [if_pos h1] at hR
    subst hR
    rw [h1] at HNm
    have hn0 : (s.extract i i).size = 0 := by rw [ByteArray.size_extract]; omega
    have hn1 := is_nil hn0
    have hn2 := is_empty hn0
    generalize s.extract i i = N at *
    clear h1 HBl w1 w2 k2 HE hwB
    go_enter Tryz.func37, Tryz.ntmps37
    go_wp2_with (first
      | (go_at_call 18; refine (HNm.out _ HL0.out).mono ?_; clear HNm; rintro e W1 ⟨rfl, hl1⟩; have HL1 : Hid (LabS w W1 U w.heap.size s i #[.string ⟨#[]⟩, .string ⟨#[]⟩]) := hl1; clear hl1; obtain ⟨x10, x11, x12, x13⟩ := HL1.out.x))
    have HF : Hid (∀ a b, LabS w ((W1.setCell ⟨w.heap.size, 0, none⟩ a).setCell ⟨w.heap.size, 1, none⟩ b) U w.heap.size s i #[a, b]) := fun a b => (HL1.out.set hne (Nat.le_refl _) 0 a).set hne (Nat.le_refl _) 1 b
    refine bodyPost_ret (res_lab _ w.heap.size _ rfl rfl _ _ _ (HF.out _ _).box) rfl ?_
    exact ⟨rfl, (HF.out _ _).cur, (HF.out _ _).kept⟩
  · rw [if_neg h1] at hR
    have HB1 : Hid (∀ W, LabS w W U w.heap.size s (wordP false s.data.toList i) #[.string ⟨#[]⟩, .string ⟨#[]⟩] → Calls Tryz.prog 17 #[.pointer (some ⟨U, 0, none⟩)] W fun e w' => (∃ b, e = .returned (.bool b)) ∧ LabS w w' U w.heap.size s (skipP s.data.toList (wordP false s.data.toList i)) #[.string ⟨#[]⟩, .string ⟨#[]⟩]) := HBl.out _ w2
    have hn0 : 1 ≤ (s.extract i (wordP false s.data.toList i)).size := by rw [ByteArray.size_extract]; omega
    have hn1 := not_nil hn0
    have hn2 := not_empty hn0
    generalize s.extract i (wordP false s.data.toList i) = N at *
    generalize wordP false s.data.toList i = j at *
    generalize skipP s.data.toList j = k at *
    clear h1 w1 w2
    by_cases h2 : s.data.toList[k]? ≠ some 61
    · rw [if_pos h2] at hR
      subst hR
      have HTk : Hid (∀ W, LabS w W U w.heap.size s k #[.string ⟨#[]⟩, .string ⟨#[]⟩] → Calls Tryz.prog 19 #[.pointer (some ⟨U, 0, none⟩), .int .u8 61] W fun e w' => e = .returned (.bool false) ∧ LabS w w' U w.heap.size s k #[.string ⟨#[]⟩, .string ⟨#[]⟩]) := fun W hW => (take_any U s k 61 W hW.cur k2 hs).mono (by rintro e w' ⟨he, hc, hk⟩; rw [decide_eq_false h2] at he; rw [if_neg h2] at hc; exact ⟨he, hW.move hne hk hc⟩)
      clear h2 HBl HE hwB
      go_enter Tryz.func37, Tryz.ntmps37
      go_wp2_with (first
        | (go_at_call 18; refine (HNm.out _ HL0.out).mono ?_; clear HNm; rintro e W1 ⟨rfl, hl1⟩; have HL1 : Hid (LabS w W1 U w.heap.size s j #[.string ⟨#[]⟩, .string ⟨#[]⟩]) := hl1; clear hl1; obtain ⟨x10, x11, x12, x13⟩ := HL1.out.x)
        | (go_at_call 17; refine (HB1.out _ HL1.out).mono ?_; clear HB1; rintro e W2 ⟨⟨b2, rfl⟩, hl2⟩; have HL2 : Hid (LabS w W2 U w.heap.size s k #[.string ⟨#[]⟩, .string ⟨#[]⟩]) := hl2; clear hl2 x10 x11 x12 x13)
        | (go_at_call 19; refine (HTk.out _ HL2.out).mono ?_; clear HTk; rintro e W3 ⟨rfl, hl3⟩; have HL3 : Hid (LabS w W3 U w.heap.size s k #[.string ⟨#[]⟩, .string ⟨#[]⟩]) := hl3; clear hl3; obtain ⟨x30, x31, x32, x33⟩ := HL3.out.x))
      have HF : Hid (∀ a b, LabS w ((W3.setCell ⟨w.heap.size, 0, none⟩ a).setCell ⟨w.heap.size, 1, none⟩ b) U w.heap.size s k #[a, b]) := fun a b => (HL3.out.set hne (Nat.le_refl _) 0 a).set hne (Nat.le_refl _) 1 b
      refine bodyPost_ret (res_lab _ w.heap.size _ rfl rfl _ _ _ (HF.out _ _).box) rfl ?_
      exact ⟨rfl, (HF.out _ _).cur, (HF.out _ _).kept⟩
    · rw [if_neg h2] at hR
      have h2' : s.data.toList[k]? = some 61 := Decidable.not_not.1 h2
      have hk := some_lt h2'
      have HTk : Hid (∀ W, LabS w W U w.heap.size s k #[.string ⟨#[]⟩, .string ⟨#[]⟩] → Calls Tryz.prog 19 #[.pointer (some ⟨U, 0, none⟩), .int .u8 61] W fun e w' => e = .returned (.bool true) ∧ LabS w w' U w.heap.size s (k + 1) #[.string ⟨#[]⟩, .string ⟨#[]⟩]) := fun W hW => (take_any U s k 61 W hW.cur k2 hs).mono (by rintro e w' ⟨he, hc, hk⟩; rw [decide_eq_true h2'] at he; rw [if_pos h2'] at hc; exact ⟨he, hW.move hne hk hc⟩)
      have HB2 : Hid (∀ W, LabS w W U w.heap.size s (k + 1) #[.string ⟨#[]⟩, .string ⟨#[]⟩] → Calls Tryz.prog 17 #[.pointer (some ⟨U, 0, none⟩)] W fun e w' => (∃ b, e = .returned (.bool b)) ∧ LabS w w' U w.heap.size s (skipP s.data.toList (k + 1)) #[.string ⟨#[]⟩, .string ⟨#[]⟩]) := HBl.out _ (by omega)
      have m2 := sk_le (s := s) (i := k + 1) (by omega)
      generalize skipP s.data.toList (k + 1) = m at *
      clear h2 h2' HBl
      by_cases h3 : s.data.toList[m]? ≠ some 34
      · rw [if_pos h3] at hR
        subst hR
        have HQ : Hid (∀ W, LabS w W U w.heap.size s m #[.string ⟨#[]⟩, .string ⟨#[]⟩] → Calls Tryz.prog 55 #[.pointer (some ⟨U, 0, none⟩)] W fun e w' => e = .returned (.tuple #[.string ⟨#[]⟩, .int .i64 8]) ∧ LabS w w' U w.heap.size s m #[.string ⟨#[]⟩, .string ⟨#[]⟩]) := fun W hW => (quoted_no U s m W hW.cur m2 hs h3).mono (by rintro e w' ⟨he, hc, hk⟩; exact ⟨he, hW.move hne hk hc⟩)
        clear h3 HE hwB
        go_enter Tryz.func37, Tryz.ntmps37
        go_wp2_with (first
          | (go_at_call 18; refine (HNm.out _ HL0.out).mono ?_; clear HNm; rintro e W1 ⟨rfl, hl1⟩; have HL1 : Hid (LabS w W1 U w.heap.size s j #[.string ⟨#[]⟩, .string ⟨#[]⟩]) := hl1; clear hl1; obtain ⟨x10, x11, x12, x13⟩ := HL1.out.x)
          | (go_at_call 17; refine (HB1.out _ HL1.out).mono ?_; clear HB1; rintro e W2 ⟨⟨b2, rfl⟩, hl2⟩; have HL2 : Hid (LabS w W2 U w.heap.size s k #[.string ⟨#[]⟩, .string ⟨#[]⟩]) := hl2; clear hl2 x10 x11 x12 x13)
          | (go_at_call 19; refine (HTk.out _ HL2.out).mono ?_; clear HTk; rintro e W3 ⟨rfl, hl3⟩; have HL3 : Hid (LabS w W3 U w.heap.size s (k + 1) #[.string ⟨#[]⟩, .string ⟨#[]⟩]) := hl3; clear hl3; obtain ⟨x30, x31, x32, x33⟩ := HL3.out.x)
          | (go_at_call 17; refine (HB2.out _ HL3.out).mono ?_; clear HB2; rintro e W4 ⟨⟨b4, rfl⟩, hl4⟩; have HL4 : Hid (LabS w W4 U w.heap.size s m #[.string ⟨#[]⟩, .string ⟨#[]⟩]) := hl4; clear hl4 x30 x31 x32 x33; have c41 := HL4.out.cur.c1)
          | (go_at_call 55; refine (HQ.out _ HL4.out).mono ?_; clear HQ; rintro e W5 ⟨rfl, hl5⟩; have HL5 : Hid (LabS w W5 U w.heap.size s m #[.string ⟨#[]⟩, .string ⟨#[]⟩]) := hl5; clear hl5; obtain ⟨x50, x51, x52, x53⟩ := HL5.out.x))
        have HF : Hid (∀ a b, LabS w ((W5.setCell ⟨w.heap.size, 0, none⟩ a).setCell ⟨w.heap.size, 1, none⟩ b) U w.heap.size s m #[a, b]) := fun a b => (HL5.out.set hne (Nat.le_refl _) 0 a).set hne (Nat.le_refl _) 1 b
        refine bodyPost_ret (res_lab _ w.heap.size _ rfl rfl _ _ _ (HF.out _ _).box) rfl ?_
        exact ⟨rfl, (HF.out _ _).cur, (HF.out _ _).kept⟩
      · rw [if_neg h3] at hR
        have h3' : s.data.toList[m]? = some 34 := Decidable.not_not.1 h3
        cases hq : quotP (s.data.toList.drop (m + 1)) (m + 1) [] with
        | inl p =>
          rw [hq] at hR
          dsimp only at hR
          subst hR
          have HQ : Hid (∀ W, LabS w W U w.heap.size s m #[.string ⟨#[]⟩, .string ⟨#[]⟩] → Calls Tryz.prog 55 #[.pointer (some ⟨U, 0, none⟩)] W fun e w' => e = .returned (.tuple #[.string ⟨#[]⟩, .int .i64 8]) ∧ LabS w w' U w.heap.size s p #[.string ⟨#[]⟩, .string ⟨#[]⟩]) := fun W hW => (quoted_any U s m W hW.cur hs h3').mono (by rintro e w' ⟨he, hc, hk⟩; rw [hq] at he hc; exact ⟨he, hW.move hne hk hc⟩)
          clear h3 h3' HE hwB hq
          go_enter Tryz.func37, Tryz.ntmps37
          go_wp2_with (first
            | (go_at_call 18; refine (HNm.out _ HL0.out).mono ?_; clear HNm; rintro e W1 ⟨rfl, hl1⟩; have HL1 : Hid (LabS w W1 U w.heap.size s j #[.string ⟨#[]⟩, .string ⟨#[]⟩]) := hl1; clear hl1; obtain ⟨x10, x11, x12, x13⟩ := HL1.out.x)
            | (go_at_call 17; refine (HB1.out _ HL1.out).mono ?_; clear HB1; rintro e W2 ⟨⟨b2, rfl⟩, hl2⟩; have HL2 : Hid (LabS w W2 U w.heap.size s k #[.string ⟨#[]⟩, .string ⟨#[]⟩]) := hl2; clear hl2 x10 x11 x12 x13)
            | (go_at_call 19; refine (HTk.out _ HL2.out).mono ?_; clear HTk; rintro e W3 ⟨rfl, hl3⟩; have HL3 : Hid (LabS w W3 U w.heap.size s (k + 1) #[.string ⟨#[]⟩, .string ⟨#[]⟩]) := hl3; clear hl3; obtain ⟨x30, x31, x32, x33⟩ := HL3.out.x)
            | (go_at_call 17; refine (HB2.out _ HL3.out).mono ?_; clear HB2; rintro e W4 ⟨⟨b4, rfl⟩, hl4⟩; have HL4 : Hid (LabS w W4 U w.heap.size s m #[.string ⟨#[]⟩, .string ⟨#[]⟩]) := hl4; clear hl4 x30 x31 x32 x33; have c41 := HL4.out.cur.c1)
            | (go_at_call 55; refine (HQ.out _ HL4.out).mono ?_; clear HQ; rintro e W5 ⟨rfl, hl5⟩; have HL5 : Hid (LabS w W5 U w.heap.size s p #[.string ⟨#[]⟩, .string ⟨#[]⟩]) := hl5; clear hl5; obtain ⟨x50, x51, x52, x53⟩ := HL5.out.x))
          have HF : Hid (∀ a b, LabS w ((W5.setCell ⟨w.heap.size, 0, none⟩ a).setCell ⟨w.heap.size, 1, none⟩ b) U w.heap.size s p #[a, b]) := fun a b => (HL5.out.set hne (Nat.le_refl _) 0 a).set hne (Nat.le_refl _) 1 b
          refine bodyPost_ret (res_lab _ w.heap.size _ rfl rfl _ _ _ (HF.out _ _).box) rfl ?_
          exact ⟨rfl, (HF.out _ _).cur, (HF.out _ _).kept⟩
        | inr vp =>
          obtain ⟨v, p⟩ := vp
          have hq2 := (quotP_place _ (s.data.toList.drop (m + 1)) (m + 1) [] (Nat.le_refl _)).2 v p hq
          rw [List.length_drop, len_list] at hq2
          rw [hq] at hR
          dsimp only at hR
          have HQ : Hid (∀ W, LabS w W U w.heap.size s m #[.string ⟨#[]⟩, .string ⟨#[]⟩] → Calls Tryz.prog 55 #[.pointer (some ⟨U, 0, none⟩)] W fun e w' => e = .returned (.tuple #[.string ⟨v.toArray⟩, .int .i64 0]) ∧ LabS w w' U w.heap.size s p #[.string ⟨#[]⟩, .string ⟨#[]⟩]) := fun W hW => (quoted_any U s m W hW.cur hs h3').mono (by rintro e w' ⟨he, hc, hk⟩; rw [hq] at he hc; exact ⟨he, hW.move hne hk hc⟩)
          have HVa : Hid (∀ W, LabS w W U w.heap.size s p #[.string ⟨#[]⟩, .string ⟨#[]⟩] → Calls Tryz.prog 56 #[.string ⟨v.toArray⟩] W fun e w' => e = .returned (.bool (Lib.validD v)) ∧ LabS w w' U w.heap.size s p #[.string ⟨#[]⟩, .string ⟨#[]⟩]) := fun W hW => (Any.utf8_ValidString Tryz.laysValid ⟨v.toArray⟩ W (by show v.toArray.size ≤ _; simp only [List.size_toArray]; simp only [List.length_nil] at hq2; omega) (HE.out W hW.kept).1).mono (by rintro e w' ⟨he, hb⟩; exact ⟨he, hW.below hb⟩)
          clear h3 h3' HE hwB hq hq2
          generalize (⟨v.toArray⟩ : ByteArray) = V at *
          cases hv : Lib.validD v
          · rw [hv, if_neg (by simp)] at hR
            subst hR
            rw [hv] at HVa
            clear hv
            go_enter Tryz.func37, Tryz.ntmps37
            go_wp2_with (first
              | (go_at_call 18; refine (HNm.out _ HL0.out).mono ?_; clear HNm; rintro e W1 ⟨rfl, hl1⟩; have HL1 : Hid (LabS w W1 U w.heap.size s j #[.string ⟨#[]⟩, .string ⟨#[]⟩]) := hl1; clear hl1; obtain ⟨x10, x11, x12, x13⟩ := HL1.out.x)
              | (go_at_call 17; refine (HB1.out _ HL1.out).mono ?_; clear HB1; rintro e W2 ⟨⟨b2, rfl⟩, hl2⟩; have HL2 : Hid (LabS w W2 U w.heap.size s k #[.string ⟨#[]⟩, .string ⟨#[]⟩]) := hl2; clear hl2 x10 x11 x12 x13)
              | (go_at_call 19; refine (HTk.out _ HL2.out).mono ?_; clear HTk; rintro e W3 ⟨rfl, hl3⟩; have HL3 : Hid (LabS w W3 U w.heap.size s (k + 1) #[.string ⟨#[]⟩, .string ⟨#[]⟩]) := hl3; clear hl3; obtain ⟨x30, x31, x32, x33⟩ := HL3.out.x)
              | (go_at_call 17; refine (HB2.out _ HL3.out).mono ?_; clear HB2; rintro e W4 ⟨⟨b4, rfl⟩, hl4⟩; have HL4 : Hid (LabS w W4 U w.heap.size s m #[.string ⟨#[]⟩, .string ⟨#[]⟩]) := hl4; clear hl4 x30 x31 x32 x33; have c41 := HL4.out.cur.c1)
              | (go_at_call 55; refine (HQ.out _ HL4.out).mono ?_; clear HQ; rintro e W5 ⟨rfl, hl5⟩; have HL5 : Hid (LabS w W5 U w.heap.size s p #[.string ⟨#[]⟩, .string ⟨#[]⟩]) := hl5; clear hl5; obtain ⟨x50, x51, x52, x53⟩ := HL5.out.x)
              | (go_at_call 56; refine (HVa.out _ HL5.out).mono ?_; clear HVa; rintro e W6 ⟨rfl, hl6⟩; have HL6 : Hid (LabS w W6 U w.heap.size s p #[.string ⟨#[]⟩, .string ⟨#[]⟩]) := hl6; clear hl6 x50 x51 x52 x53; obtain ⟨x60, x61, x62, x63⟩ := HL6.out.x; have f61 := HL6.out.cur.f1; have c61 := HL6.out.cur.c1))
            have HF : Hid (∀ a b, LabS w (((W6.setCell ⟨U, 1, none⟩ (.int .i64 m)).setCell ⟨w.heap.size, 0, none⟩ a).setCell ⟨w.heap.size, 1, none⟩ b) U w.heap.size s m #[a, b]) := fun a b => ((HL6.out.seek hne m rfl).set hne (Nat.le_refl _) 0 a).set hne (Nat.le_refl _) 1 b
            refine bodyPost_ret (res_lab _ w.heap.size _ rfl rfl _ _ _ (HF.out _ _).box) rfl ?_
            exact ⟨rfl, (HF.out _ _).cur, (HF.out _ _).kept⟩
          · rw [hv, if_pos rfl] at hR
            subst hR
            rw [hv] at HVa
            clear hv
            go_enter Tryz.func37, Tryz.ntmps37
            go_wp2_with (first
              | (go_at_call 18; refine (HNm.out _ HL0.out).mono ?_; clear HNm; rintro e W1 ⟨rfl, hl1⟩; have HL1 : Hid (LabS w W1 U w.heap.size s j #[.string ⟨#[]⟩, .string ⟨#[]⟩]) := hl1; clear hl1; obtain ⟨x10, x11, x12, x13⟩ := HL1.out.x)
              | (go_at_call 17; refine (HB1.out _ HL1.out).mono ?_; clear HB1; rintro e W2 ⟨⟨b2, rfl⟩, hl2⟩; have HL2 : Hid (LabS w W2 U w.heap.size s k #[.string ⟨#[]⟩, .string ⟨#[]⟩]) := hl2; clear hl2 x10 x11 x12 x13)
              | (go_at_call 19; refine (HTk.out _ HL2.out).mono ?_; clear HTk; rintro e W3 ⟨rfl, hl3⟩; have HL3 : Hid (LabS w W3 U w.heap.size s (k + 1) #[.string ⟨#[]⟩, .string ⟨#[]⟩]) := hl3; clear hl3; obtain ⟨x30, x31, x32, x33⟩ := HL3.out.x)
              | (go_at_call 17; refine (HB2.out _ HL3.out).mono ?_; clear HB2; rintro e W4 ⟨⟨b4, rfl⟩, hl4⟩; have HL4 : Hid (LabS w W4 U w.heap.size s m #[.string ⟨#[]⟩, .string ⟨#[]⟩]) := hl4; clear hl4 x30 x31 x32 x33; have c41 := HL4.out.cur.c1)
              | (go_at_call 55; refine (HQ.out _ HL4.out).mono ?_; clear HQ; rintro e W5 ⟨rfl, hl5⟩; have HL5 : Hid (LabS w W5 U w.heap.size s p #[.string ⟨#[]⟩, .string ⟨#[]⟩]) := hl5; clear hl5; obtain ⟨x50, x51, x52, x53⟩ := HL5.out.x)
              | (go_at_call 56; refine (HVa.out _ HL5.out).mono ?_; clear HVa; rintro e W6 ⟨rfl, hl6⟩; have HL6 : Hid (LabS w W6 U w.heap.size s p #[.string ⟨#[]⟩, .string ⟨#[]⟩]) := hl6; clear hl6 x50 x51 x52 x53; obtain ⟨x60, x61, x62, x63⟩ := HL6.out.x; have f61 := HL6.out.cur.f1; have c61 := HL6.out.cur.c1))
            have HF : Hid (∀ a b, LabS w ((W6.setCell ⟨w.heap.size, 0, none⟩ a).setCell ⟨w.heap.size, 1, none⟩ b) U w.heap.size s p #[a, b]) := fun a b => (HL6.out.set hne (Nat.le_refl _) 0 a).set hne (Nat.le_refl _) 1 b
            refine bodyPost_ret (res_lab _ w.heap.size _ rfl rfl _ _ _ (HF.out _ _).box) rfl ?_
            exact ⟨rfl, (HF.out _ _).cur, (HF.out _ _).kept⟩
end Go.Proofs.YtfckdleahljdeaaGreatDoor
