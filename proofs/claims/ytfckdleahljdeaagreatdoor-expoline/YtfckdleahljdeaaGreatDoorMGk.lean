/- Texts that belong together. -/
import Derived.Test.YtfckdleahljdeaaGreatDoorMFa
import Derived.Test.YtfckdleahljdeaaGreatDoorSt
import Derived.Test.YtfckdleahljdeaaGreatDoorMDr
import Derived.Test.YtfckdleahljdeaaGreatDoorMRo
import Derived.Test.YtfckdleahljdeaaGreatDoorSh
import Derived.Test.YtfckdleahljdeaaGreatDoorMLl
import Derived.Test.YtfckdleahljdeaaGreatDoorMEx4
/- The program's reading of whole numbers. -/
namespace Go.Proofs.YtfckdleahljdeaaGreatDoor.Nu
open Go.RowKit Go.Maps

/-- The library's two errors are there. -/
def Errs (w : World) : Prop := (∃ te pe, w.cell? ⟨4, 0, none⟩ = some (.iface te pe)) ∧ (∃ te pe, w.cell? ⟨5, 0, none⟩ = some (.iface te pe)) ∧ 5 < w.heap.size ∧ 4 < w.heap.size
theorem Errs.below {w w' : World} (h : Errs w) (hb : Below w.heap.size w w') : Errs w' := by
  obtain ⟨⟨a, b, h1⟩, ⟨c, d, h2⟩, h3, h4⟩ := h
  have := hb.size
  exact ⟨⟨a, b, (hb.cell (p := ⟨4, 0, none⟩) h4).trans h1⟩, ⟨c, d, (hb.cell (p := ⟨5, 0, none⟩) h3).trans h2⟩, by omega, by omega⟩
theorem atoi_ok (s : ByteArray) (v : Int) (w : World) (hs : s.size ≤ 140737488351232) (h : Lib.atoiAll s.data.toList = .ok v) : Calls Tryz.prog 62 #[.string s] w fun e w' => e = .returned (.tuple #[.int .i64 v, .nilIface]) ∧ Below w.heap.size w w' :=
  Calls.mono (Any.strconv_Atoi_ok Tryz.laysC172 s (by omega) v h w) (by
    rintro e w' ⟨rfl, h1⟩
    refine ⟨rfl, ?_⟩
    rcases h1 with rfl | ⟨t, rfl⟩
    · exact Below.refl _ _
    · exact Lib.bytesWorld_below _ _ _)
theorem atoi_bad (s : ByteArray) (w : World) (hs : s.size ≤ 140737488351232) (hE : Errs w) (h : ∀ v, Lib.atoiAll s.data.toList ≠ .ok v) : Calls Tryz.prog 62 #[.string s] w fun e w' => (∃ x t p, e = .returned (.tuple #[.int .i64 x, .iface t p])) ∧ Below w.heap.size w w' := by
  obtain ⟨⟨a, b, h1⟩, ⟨c, d, h2⟩, _, _⟩ := hE
  cases hx : Lib.atoiAll s.data.toList with
  | ok v => exact absurd hx (h v)
  | «syntax» =>
    refine Calls.mono (Any.strconv_Atoi_syntax Tryz.laysC172 s (by omega) hx _ w h1 (Or.inr ⟨a, b, rfl⟩)) ?_
    rintro e w' ⟨N, rfl, _, _, hb⟩
    exact ⟨⟨_, _, _, rfl⟩, hb⟩
  | range =>
    refine Calls.mono (Any.strconv_Atoi_range Tryz.laysC172 s (by omega) hx _ w h2 (Or.inr ⟨c, d, rfl⟩)) ?_
    rintro e w' ⟨N, rfl, _, _, hb⟩
    exact ⟨⟨_, _, _, rfl⟩, hb⟩

set_option maxRecDepth 100000 in
set_option maxHeartbeats 400000 in
theorem int_ok (s : ByteArray) (v : Int) (w : World) (hs : s.size ≤ 140737488351232) (hv : inI v) (h : s = ⟨(Lib.itoa v).toArray⟩) (hP : Pow w) : Calls Tryz.prog 40 #[.string s] w fun e w' => e = .returned (.tuple #[.int .i64 v, .int .i64 0]) ∧ Below w.heap.size w w' := by
  have ha := atoi_ok s v w hs (by rw [h]; exact atoi_itoa v hv.1 hv.2)
  have HT : Hid (∀ W : World, Below w.heap.size w W → Calls Tryz.prog 63 #[.int .i64 v] W fun e w' => e = .returned (.string s) ∧ Below W.heap.size W w') := fun W hb => by
    rw [h]
    exact intText_any v W hv.1 hv.2 (hP.below hb)
  clear hP h hv
  go_enter Tryz.func40, Tryz.ntmps40
  go_wp2_with (first
    | (go_at_call 62; refine ha.mono ?_; clear ha; rintro e w1 ⟨rfl, hb1⟩; have HB1 : Hid (Below w.heap.size w w1) := hb1; clear hb1)
    | (go_at_call 63; refine (HT.out _ HB1.out).mono ?_; clear HT; rintro e w2 ⟨rfl, hb2⟩; have HB2 : Hid (Below w.heap.size w w2) := HB1.out.trans (hb2.mono HB1.out.size); clear hb2))
  go_ret2
  exact ⟨rfl, HB2.out⟩
set_option maxRecDepth 100000 in
set_option maxHeartbeats 400000 in
theorem int_no (s : ByteArray) (w : World) (hs : s.size ≤ 140737488351232) (h : ∀ v, inI v → s ≠ ⟨(Lib.itoa v).toArray⟩) (hP : Pow w) (hE : Errs w) : Calls Tryz.prog 40 #[.string s] w fun e w' => e = .returned (.tuple #[.int .i64 0, .int .i64 8]) ∧ Below w.heap.size w w' := by
  by_cases hx : ∃ v, Lib.atoiAll s.data.toList = .ok v
  · obtain ⟨v, hx⟩ := hx
    have hv : inI v := Lib.atoiAll_bounds hx
    have ha := atoi_ok s v w hs hx
    have HT : Hid (∀ W : World, Below w.heap.size w W → Calls Tryz.prog 63 #[.int .i64 v] W fun e w' => e = .returned (.string ⟨(Lib.itoa v).toArray⟩) ∧ Below W.heap.size W w') := fun W hb => intText_any v W hv.1 hv.2 (hP.below hb)
    have hne : ((⟨(Lib.itoa v).toArray⟩ : ByteArray).toList == s.toList) = false := ne_list (fun e => h v hv e.symm)
    clear hP h hv hx hE
    generalize (⟨(Lib.itoa v).toArray⟩ : ByteArray) = IS at *
    go_enter Tryz.func40, Tryz.ntmps40
    go_wp2_with (first
      | (go_at_call 62; refine ha.mono ?_; clear ha; rintro e w1 ⟨rfl, hb1⟩; have HB1 : Hid (Below w.heap.size w w1) := hb1; clear hb1)
      | (go_at_call 63; refine (HT.out _ HB1.out).mono ?_; clear HT; rintro e w2 ⟨rfl, hb2⟩; have HB2 : Hid (Below w.heap.size w w2) := HB1.out.trans (hb2.mono HB1.out.size); clear hb2))
    go_ret2
    exact ⟨rfl, HB2.out⟩
  · have ha := atoi_bad s w hs hE (fun v e => hx ⟨v, e⟩)
    clear hP h hx hE
    go_enter Tryz.func40, Tryz.ntmps40
    go_wp2_with (go_at_call 62; refine ha.mono ?_; clear ha; rintro e w1 ⟨⟨x, t, p, rfl⟩, hb1⟩; have HB1 : Hid (Below w.heap.size w w1) := hb1; clear hb1)
    go_ret2
    exact ⟨rfl, HB1.out⟩
end Go.Proofs.YtfckdleahljdeaaGreatDoor.Nu

/- Whole numbers, read: both sides. -/
namespace Go.Proofs.YtfckdleahljdeaaGreatDoor.Nu
open Go.RowKit Go.Maps

open Classical in
/-- What a text says as a whole number, and the error. -/
noncomputable def intR (a : ByteArray) : Int × Int := if h : ∃ v, inI v ∧ a = ⟨(Lib.itoa v).toArray⟩ then (h.choose, 0) else (0, 8)
theorem itoa_inj {u v : Int} (hu : inI u) (hv : inI v) (h : (⟨(Lib.itoa u).toArray⟩ : ByteArray) = ⟨(Lib.itoa v).toArray⟩) : u = v := by
  have h1 := atoi_itoa u hu.1 hu.2
  have h2 := atoi_itoa v hv.1 hv.2
  have h3 : Lib.itoa u = Lib.itoa v := by
    have := congrArg (fun x : ByteArray => x.data.toList) h
    simpa using this
  rw [h3, h2] at h1
  injection h1 with h1
  exact h1.symm
theorem intR_yes {v : Int} (hv : inI v) : intR ⟨(Lib.itoa v).toArray⟩ = (v, 0) := by
  have h : ∃ u, inI u ∧ (⟨(Lib.itoa v).toArray⟩ : ByteArray) = ⟨(Lib.itoa u).toArray⟩ := ⟨v, hv, rfl⟩
  unfold intR
  rw [dif_pos h, itoa_inj h.choose_spec.1 hv h.choose_spec.2.symm]
theorem intR_no {a : ByteArray} (h : ∀ v, inI v → a ≠ ⟨(Lib.itoa v).toArray⟩) : intR a = (0, 8) := by
  unfold intR
  rw [dif_neg]
  rintro ⟨v, hv, e⟩
  exact h v hv e
theorem int_any (a : ByteArray) (w : World) (hs : a.size ≤ 140737488351232) (hP : Pow w) (hE : Errs w) : Calls Tryz.prog 40 #[.string a] w fun e w' => e = .returned (.tuple #[.int .i64 (intR a).1, .int .i64 (intR a).2]) ∧ Below w.heap.size w w' := by
  by_cases h : ∃ v, inI v ∧ a = ⟨(Lib.itoa v).toArray⟩
  · obtain ⟨v, hv, e⟩ := h
    have h1 := int_ok a v w hs hv e hP
    rw [show intR a = (v, 0) by rw [e]; exact intR_yes hv]
    exact h1
  · have h2 : ∀ v, inI v → a ≠ ⟨(Lib.itoa v).toArray⟩ := fun v hv e => h ⟨v, hv, e⟩
    rw [intR_no h2]
    exact int_no a w hs h2 hP hE
theorem refInt_any (a : ByteArray) (w : World) (hs : a.size ≤ 140737488351232) : Calls Tryz.prog 48 #[.string a] w fun e w' => e = .returned (.tuple #[.int .i64 (intR a).1, .int .i64 (intR a).2]) ∧ Below w.heap.size w w' := by
  have hy : ∀ v, inI v → a = ⟨(Lib.itoa v).toArray⟩ → (intR a).1 = v ∧ (intR a).2 = 0 := fun v hv e => by
    rw [e, intR_yes hv]
    exact ⟨rfl, rfl⟩
  have hn : (∀ v, inI v → a ≠ ⟨(Lib.itoa v).toArray⟩) → (intR a).1 = 0 ∧ (intR a).2 = 8 := fun h => by
    rw [intR_no h]
    exact ⟨rfl, rfl⟩
  by_cases hc : ∃ r, a.data.toList = 45 :: r
  · obtain ⟨r, hr⟩ := hc
    exact refInt_minus a ⟨r.toArray⟩ _ _ w hs (Or.inl ⟨rfl, hr⟩) hy hn
  · exact refInt_plain a _ _ w hs (Or.inr ⟨rfl, rfl, fun r e => hc ⟨r, e⟩⟩) hy hn

end Go.Proofs.YtfckdleahljdeaaGreatDoor.Nu

/- A sample's line, read: pure. -/
namespace Go.Proofs.YtfckdleahljdeaaGreatDoor
open Nu

/-- How a line is read: refused at a place, or its labels, the value's bits, the time. -/
inductive LRes where
  | bad (place : Nat) (e : Int) : LRes
  | ok (ls : List Lb) (V : Nat) (T : Int) (hasT : Bool) : LRes

/-- A label that begins at a place. -/
def labR (s : ByteArray) (i : Nat) : (Nat × Int) ⊕ (Lb × Nat) :=
  if wordP false s.data.toList i = i then .inl (i, 8)
  else if s.data.toList[skipP s.data.toList (wordP false s.data.toList i)]? ≠ some 61 then .inl (skipP s.data.toList (wordP false s.data.toList i), 8)
  else if s.data.toList[skipP s.data.toList (skipP s.data.toList (wordP false s.data.toList i) + 1)]? ≠ some 34 then .inl (skipP s.data.toList (skipP s.data.toList (wordP false s.data.toList i) + 1), 8)
  else match quotP (s.data.toList.drop (skipP s.data.toList (skipP s.data.toList (wordP false s.data.toList i) + 1) + 1)) (skipP s.data.toList (skipP s.data.toList (wordP false s.data.toList i) + 1) + 1) [] with
    | .inl p => .inl (p, 8)
    | .inr (v, p) => if Lib.validD v = true then .inr ((s.extract i (wordP false s.data.toList i), ⟨v.toArray⟩), p) else .inl (skipP s.data.toList (skipP s.data.toList (wordP false s.data.toList i) + 1), 8)
/-- The labels behind an opening brace. -/
def labsR (s : ByteArray) : Nat → Nat → List Lb → (Nat × Int) ⊕ (List Lb × Nat)
  | 0, i, _ => .inl (i, 8)
  | n + 1, i, acc =>
    if s.data.toList[skipP s.data.toList i]? = some 125 then .inr (acc, skipP s.data.toList i + 1)
    else match labR s (skipP s.data.toList i) with
      | .inl e => .inl e
      | .inr (x, p) =>
        if hasL acc x.1 = true then .inl (skipP s.data.toList i, 13)
        else if s.data.toList[skipP s.data.toList p]? = some 44 then labsR s n (skipP s.data.toList p + 1) (acc ++ [x])
        else if s.data.toList[skipP s.data.toList p]? = some 125 then .inr (acc ++ [x], skipP s.data.toList p + 1)
        else .inl (skipP s.data.toList p, 8)
def nameB : ByteArray := ⟨nameTok.toArray⟩
/-- The set at the end. -/
def setR (name : ByteArray) (ls : List Lb) (V : Nat) (T : Int) (hasT : Bool) : LRes :=
  if hasL ls nameB = true then .bad 0 2
  else if (newR ((nameB, name) :: ls)).2 ≠ 0 then .bad 0 (newR ((nameB, name) :: ls)).2
  else .ok (newR ((nameB, name) :: ls)).1 V T hasT
/-- The value and the time. -/
noncomputable def numsR (s name : ByteArray) (ls : List Lb) (i : Nat) : LRes :=
  if (parseR (s.extract i (tokP s.data.toList i))).2 ≠ 0 then .bad i 8
  else if skipP s.data.toList (tokP s.data.toList i) < s.size then
    if (intR (s.extract (skipP s.data.toList (tokP s.data.toList i)) (tokP s.data.toList (skipP s.data.toList (tokP s.data.toList i))))).2 ≠ 0 ∨ (intR (s.extract (skipP s.data.toList (tokP s.data.toList i)) (tokP s.data.toList (skipP s.data.toList (tokP s.data.toList i))))).1 < -9007199254740992 ∨ 9007199254740992 < (intR (s.extract (skipP s.data.toList (tokP s.data.toList i)) (tokP s.data.toList (skipP s.data.toList (tokP s.data.toList i))))).1 then .bad (skipP s.data.toList (tokP s.data.toList i)) 8
    else if skipP s.data.toList (tokP s.data.toList (skipP s.data.toList (tokP s.data.toList i))) < s.size then .bad (skipP s.data.toList (tokP s.data.toList (skipP s.data.toList (tokP s.data.toList i)))) 8
    else setR name ls (parseR (s.extract i (tokP s.data.toList i))).1 (intR (s.extract (skipP s.data.toList (tokP s.data.toList i)) (tokP s.data.toList (skipP s.data.toList (tokP s.data.toList i))))).1 true
  else setR name ls (parseR (s.extract i (tokP s.data.toList i))).1 0 false
/-- A line without a line end. -/
noncomputable def readR (s : ByteArray) : LRes :=
  if wordP true s.data.toList (skipP s.data.toList 0) = skipP s.data.toList 0 then .bad (skipP s.data.toList 0) 8
  else if s.data.toList[skipP s.data.toList (wordP true s.data.toList (skipP s.data.toList 0))]? = some 123 then
    match labsR s (s.size + 1) (skipP s.data.toList (wordP true s.data.toList (skipP s.data.toList 0)) + 1) [] with
    | .inl (p, e) => .bad p e
    | .inr (ls, p) => numsR s (s.extract (skipP s.data.toList 0) (wordP true s.data.toList (skipP s.data.toList 0))) ls (skipP s.data.toList p)
  else if skipP s.data.toList (wordP true s.data.toList (skipP s.data.toList 0)) = wordP true s.data.toList (skipP s.data.toList 0) then .bad (skipP s.data.toList (wordP true s.data.toList (skipP s.data.toList 0))) 8
  else numsR s (s.extract (skipP s.data.toList 0) (wordP true s.data.toList (skipP s.data.toList 0))) [] (skipP s.data.toList (wordP true s.data.toList (skipP s.data.toList 0)))
/-- What is ahead of the first line end. -/
def frontB (s : ByteArray) : ByteArray := ⟨(s.data.toList.takeWhile (fun c => c != 10)).toArray⟩
/-- Any text, read as a line. -/
noncomputable def lineR (s : ByteArray) : LRes :=
  if (10 : UInt8) ∈ s.data.toList then
    match readR (frontB s) with
    | .bad p e => .bad p e
    | .ok _ _ _ _ => .bad (frontB s).size 8
  else readR s

theorem len_list (s : ByteArray) : s.data.toList.length = s.size := by simp
theorem sk_ge (s : ByteArray) (i : Nat) : i ≤ skipP s.data.toList i := skipP_ge _ _
theorem sk_le {s : ByteArray} {i : Nat} (h : i ≤ s.size) : skipP s.data.toList i ≤ s.size := by
  have := skipP_le (l := s.data.toList) (i := i) (by rw [len_list]; exact h)
  rwa [len_list] at this
theorem wo_ge (co : Bool) (s : ByteArray) (i : Nat) : i ≤ wordP co s.data.toList i := wordP_ge _ _ _
theorem wo_le {co : Bool} {s : ByteArray} {i : Nat} (h : i ≤ s.size) : wordP co s.data.toList i ≤ s.size := by
  have := wordP_le (co := co) (l := s.data.toList) (i := i) (by rw [len_list]; exact h)
  rwa [len_list] at this
theorem to_ge (s : ByteArray) (i : Nat) : i ≤ tokP s.data.toList i := tokP_ge _ _
theorem to_le {s : ByteArray} {i : Nat} (h : i ≤ s.size) : tokP s.data.toList i ≤ s.size := by
  have := tokP_le (l := s.data.toList) (i := i) (by rw [len_list]; exact h)
  rwa [len_list] at this
theorem some_lt {s : ByteArray} {i : Nat} {c : UInt8} (h : s.data.toList[i]? = some c) : i < s.size := by
  have := (List.getElem?_eq_some_iff.1 h).1
  rwa [len_list] at this
/-- A label's place: it is refused within the text, or the place behind it lies further. -/
theorem labR_place (s : ByteArray) (i : Nat) (hi : i ≤ s.size) : (∀ p e, labR s i = .inl (p, e) → i ≤ p ∧ p ≤ s.size ∧ e = 8) ∧ (∀ x p, labR s i = .inr (x, p) → i + 4 ≤ p ∧ p ≤ s.size) := by
  unfold labR
  have w1 := wo_ge false s i
  have w2 := wo_le (co := false) hi
  have k1 := sk_ge s (wordP false s.data.toList i)
  have k2 := sk_le w2
  generalize wordP false s.data.toList i = j at *
  by_cases h1 : j = i
  · rw [if_pos h1]
    refine ⟨fun p e h => ?_, fun x p h => (by cases h)⟩
    simp at h
    omega
  · rw [if_neg h1]
    generalize skipP s.data.toList j = k at *
    by_cases h2 : s.data.toList[k]? ≠ some 61
    · rw [if_pos h2]
      refine ⟨fun p e h => ?_, fun x p h => (by cases h)⟩
      simp at h
      omega
    · rw [if_neg h2]
      have hk := some_lt (Decidable.not_not.1 h2)
      have m1 := sk_ge s (k + 1)
      have m2 := sk_le (s := s) (i := k + 1) (by omega)
      generalize skipP s.data.toList (k + 1) = m at *
      by_cases h3 : s.data.toList[m]? ≠ some 34
      · rw [if_pos h3]
        refine ⟨fun p e h => ?_, fun x p h => (by cases h)⟩
        simp at h
        omega
      · rw [if_neg h3]
        have hm := some_lt (Decidable.not_not.1 h3)
        obtain ⟨q1, q2⟩ := quotP_place _ (s.data.toList.drop (m + 1)) (m + 1) [] (Nat.le_refl _)
        rw [List.length_drop, len_list] at q1 q2
        cases hq : quotP (s.data.toList.drop (m + 1)) (m + 1) [] with
        | inl p =>
          have := q1 p hq
          refine ⟨fun p e h => ?_, fun x p h => (by cases h)⟩
          simp at h
          omega
        | inr vp =>
          obtain ⟨v, p⟩ := vp
          have := q2 v p hq
          dsimp only
          split
          · refine ⟨fun p e h => (by cases h), fun x p h => ?_⟩
            simp at h
            omega
          · refine ⟨fun p e h => ?_, fun x p h => (by cases h)⟩
            simp at h
            omega
theorem labR_size {s : ByteArray} {i : Nat} {x : Lb} {p : Nat} (h : labR s i = .inr (x, p)) : x.1.size ≤ s.size ∧ x.2.size ≤ s.size := by
  unfold labR at h
  generalize wordP false s.data.toList i = j at *
  split at h
  · cases h
  · split at h
    · cases h
    · split at h
      · cases h
      · split at h
        · cases h
        · rename_i v p' hq
          split at h
          · simp only [Sum.inr.injEq, Prod.mk.injEq] at h
            obtain ⟨rfl, rfl⟩ := h
            have q2 := (quotP_place _ (s.data.toList.drop (skipP s.data.toList (skipP s.data.toList j + 1) + 1)) (skipP s.data.toList (skipP s.data.toList j + 1) + 1) [] (Nat.le_refl _)).2 v p' hq
            rw [List.length_drop, len_list] at q2
            refine ⟨by rw [ByteArray.size_extract]; omega, ?_⟩
            show v.toArray.size ≤ _
            rw [List.size_toArray]
            simp only [List.length_nil] at q2
            omega
          · cases h
/-- What labels come to: their number and sizes. -/
theorem labsR_size (s : ByteArray) : ∀ (n i : Nat) (acc ls : List Lb) (p : Nat), i ≤ s.size → labsR s n i acc = .inr (ls, p) → (∀ x ∈ acc, x.1.size ≤ s.size ∧ x.2.size ≤ s.size) → (∀ x ∈ ls, x.1.size ≤ s.size ∧ x.2.size ≤ s.size) ∧ p ≤ s.size ∧ 5 * ls.length + i ≤ 5 * acc.length + p := by
  intro n
  induction n with
  | zero => intro i acc ls p _ h; simp [labsR] at h
  | succ n ih =>
    intro i acc ls p hi h ha
    unfold labsR at h
    have k1 := sk_ge s i
    have k2 := sk_le hi
    generalize skipP s.data.toList i = k at *
    split at h
    · rename_i h1
      have := some_lt h1
      simp only [Sum.inr.injEq, Prod.mk.injEq] at h
      obtain ⟨rfl, rfl⟩ := h
      exact ⟨ha, by omega, by omega⟩
    · split at h
      · cases h
      · rename_i x p' hl
        have hz := labR_size hl
        obtain ⟨hp1, hp2⟩ := (labR_place s k k2).2 x p' hl
        have q1 := sk_ge s p'
        have q2 := sk_le hp2
        generalize skipP s.data.toList p' = q at *
        have ha2 : ∀ y ∈ acc ++ [x], y.1.size ≤ s.size ∧ y.2.size ≤ s.size := fun y hy => by
          rcases List.mem_append.1 hy with hy | hy
          · exact ha y hy
          · rw [List.mem_singleton.1 hy]; exact hz
        split at h
        · cases h
        · split at h
          · rename_i h3
            have := some_lt h3
            obtain ⟨r1, r2, r3⟩ := ih (q + 1) (acc ++ [x]) ls p (by omega) h ha2
            refine ⟨r1, r2, ?_⟩
            rw [List.length_append, List.length_singleton] at r3
            omega
          · split at h
            · rename_i h4
              have := some_lt h4
              simp only [Sum.inr.injEq, Prod.mk.injEq] at h
              obtain ⟨rfl, rfl⟩ := h
              refine ⟨ha2, by omega, ?_⟩
              rw [List.length_append, List.length_singleton]
              omega
            · cases h
end Go.Proofs.YtfckdleahljdeaaGreatDoor

/- strings.Builder's contracts at this program: those of Sp. -/

/- A cursor on a line: what stands in quotes; values, times. -/
namespace Go.Proofs.YtfckdleahljdeaaGreatDoor
open Go.RowKit Go.Maps

set_option maxRecDepth 100000 in
set_option maxHeartbeats 1000000 in
theorem escaped_end (U : Nat) (s : ByteArray) (i : Nat) (w : World) (h : Cur w U s i) (hi : i = s.size) : Calls Tryz.prog 84 #[.pointer (some ⟨U, 0, none⟩)] w fun e w' => e = .returned (.tuple #[.int .u8 0, .bool false]) ∧ ∃ q, w' = w.drewN q := by
  have hE := ended_any U s i w h
  rw [decide_eq_true hi] at hE
  clear h
  go_enter Tryz.func84, Tryz.ntmps84
  go_wp2_with (go_at_call 22; refine hE.mono ?_; clear hE; rintro e w1 ⟨rfl, q, rfl⟩)
  go_ret2
  exact ⟨rfl, _, rfl⟩
/-- What an escape stands for. -/
def escF (c : UInt8) : Option UInt8 := if c = 92 ∨ c = 34 then some c else if c = 110 then some 10 else none
set_option maxRecDepth 100000 in
set_option maxHeartbeats 1000000 in
theorem escaped_one (U : Nat) (s : ByteArray) (i : Nat) (w : World) (h : Cur w U s i) (hi : i < s.size) : Calls Tryz.prog 84 #[.pointer (some ⟨U, 0, none⟩)] w fun e w' => e = .returned (.tuple #[.int .u8 (((escF s[i]).getD 0).toNat : Int), .bool (escF s[i]).isSome]) ∧ ∃ q, w' = w.drewN q := by
  have hE := ended_any U s i w h
  rw [decide_eq_false (by omega)] at hE
  have c0 := h.c0
  have c1 := h.c1
  have hbl : s[i].toNat < 256 := s[i].toNat_lt
  have e1 : ((s[i].toNat : Int) == 92) = (s[i] == 92) := u8_eq (d := 92)
  have e2 : ((s[i].toNat : Int) == 34) = (s[i] == 34) := u8_eq (d := 34)
  have e3 : ((s[i].toNat : Int) == 110) = (s[i] == 110) := u8_eq (d := 110)
  clear h
  by_cases d1 : s[i] = 92
  · have hv : escF s[i] = some s[i] := by unfold escF; rw [if_pos (Or.inl d1)]
    rw [hv]
    rw [show (s[i] == 92) = true from by rw [d1]; rfl] at e1
    clear hv d1 e2 e3
    go_enter Tryz.func84, Tryz.ntmps84
    go_wp2_with (go_at_call 22; refine hE.mono ?_; clear hE; rintro e w1 ⟨rfl, q, rfl⟩)
    go_quiet (fail)
    go_wp2
    go_ret2
    exact ⟨rfl, _, rfl⟩
  · rw [show (s[i] == 92) = false from by simpa using d1] at e1
    by_cases d2 : s[i] = 34
    · have hv : escF s[i] = some s[i] := by unfold escF; rw [if_pos (Or.inr d2)]
      rw [hv]
      rw [show (s[i] == 34) = true from by rw [d2]; rfl] at e2
      clear hv d1 d2 e3
      go_enter Tryz.func84, Tryz.ntmps84
      go_wp2_with (go_at_call 22; refine hE.mono ?_; clear hE; rintro e w1 ⟨rfl, q, rfl⟩)
      go_quiet (fail)
      go_wp2
      go_ret2
      exact ⟨rfl, _, rfl⟩
    · rw [show (s[i] == 34) = false from by simpa using d2] at e2
      by_cases d3 : s[i] = 110
      · have hv : escF s[i] = some 10 := by unfold escF; rw [if_neg (fun h => h.elim d1 d2), if_pos d3]
        rw [hv]
        rw [show (s[i] == 110) = true from by rw [d3]; rfl] at e3
        clear hv d1 d2 d3
        go_enter Tryz.func84, Tryz.ntmps84
        go_wp2_with (go_at_call 22; refine hE.mono ?_; clear hE; rintro e w1 ⟨rfl, q, rfl⟩)
        go_quiet (fail)
        go_wp2
        go_ret2
        exact ⟨rfl, _, rfl⟩
      · have hv : escF s[i] = none := by unfold escF; rw [if_neg (fun h => h.elim d1 d2), if_neg d3]
        rw [hv]
        rw [show (s[i] == 110) = false from by simpa using d3] at e3
        clear hv d1 d2 d3
        go_enter Tryz.func84, Tryz.ntmps84
        go_wp2_with (go_at_call 22; refine hE.mono ?_; clear hE; rintro e w1 ⟨rfl, q, rfl⟩)
        go_quiet (fail)
        go_wp2
        go_ret2
        exact ⟨rfl, _, rfl⟩

set_option maxRecDepth 100000 in
set_option maxHeartbeats 1000000 in
theorem value_ok (U : Nat) (s : ByteArray) (i : Nat) (V : Nat) (w : World) (h : Cur w U s i) (hi : i ≤ s.size) (hs : s.size ≤ 1000000000) (hV : Nu.parseR (s.extract i (tokP s.data.toList i)) = (V, 0)) : Calls Tryz.prog 21 #[.pointer (some ⟨U, 0, none⟩)] w fun e w' => e = .returned (.tuple #[.float .f64 V, .int .i64 0]) ∧ Cur w' U s (tokP s.data.toList i) ∧ Kept (fun k => k = U) w w' := by
  have hP := piece_any U s i w h hi hs
  have hsz : (s.extract i (tokP s.data.toList i)).size ≤ maxLen := by
    rw [ByteArray.size_extract]
    unfold maxLen
    omega
  have HV : Hid (∀ W, Calls Tryz.prog 38 #[.string (s.extract i (tokP s.data.toList i))] W fun e w' => e = .returned (.tuple #[.float .f64 V, .int .i64 0]) ∧ Below W.heap.size W w') := fun W => by have := Nu.parse_any _ W hsz; rw [hV] at this; exact this
  have c1 := h.c1
  generalize tokP s.data.toList i = j at *
  clear h hsz hV
  generalize s.extract i j = t at *
  go_enter Tryz.func21, Tryz.ntmps21
  go_wp2_with (first
    | (go_at_call 39; refine hP.mono ?_; clear hP; rintro e w1 ⟨rfl, hc1, hk1⟩)
    | (go_at_call 38; refine (HV.out _).mono ?_; clear HV; rintro e w2 ⟨rfl, hb2⟩))
  go_ret2
  exact ⟨rfl, (hb2.block _ (Array.getElem?_eq_some_iff.1 hc1).1).trans hc1, hk1.below hb2⟩
set_option maxRecDepth 100000 in
set_option maxHeartbeats 1000000 in
theorem value_no (U : Nat) (s : ByteArray) (i : Nat) (w : World) (h : Cur w U s i) (hi : i ≤ s.size) (hs : s.size ≤ 1000000000) (hV : (Nu.parseR (s.extract i (tokP s.data.toList i))).2 ≠ 0) : Calls Tryz.prog 21 #[.pointer (some ⟨U, 0, none⟩)] w fun e w' => e = .returned (.tuple #[.float .f64 0, .int .i64 8]) ∧ Cur w' U s i ∧ Kept (fun k => k = U) w w' := by
  have hP := piece_any U s i w h hi hs
  have hsz : (s.extract i (tokP s.data.toList i)).size ≤ maxLen := by
    rw [ByteArray.size_extract]
    unfold maxLen
    omega
  have HV : Hid (∀ W, Calls Tryz.prog 38 #[.string (s.extract i (tokP s.data.toList i))] W fun e w' => e = .returned (.tuple #[.float .f64 (Nu.parseR (s.extract i (tokP s.data.toList i))).1, .int .i64 (Nu.parseR (s.extract i (tokP s.data.toList i))).2]) ∧ Below W.heap.size W w') := fun W => Nu.parse_any _ W hsz
  have c1 := h.c1
  generalize tokP s.data.toList i = j at *
  clear h hsz
  generalize s.extract i j = t at *
  generalize (Nu.parseR t).1 = V at *
  generalize (Nu.parseR t).2 = E at *
  have hE2 : (E == 0) = false := by simpa using hV
  clear hV
  go_enter Tryz.func21, Tryz.ntmps21
  go_wp2_with (first
    | (go_at_call 39; refine hP.mono ?_; clear hP; rintro e w1 ⟨rfl, hc1, hk1⟩)
    | (go_at_call 38; refine (HV.out _).mono ?_; clear HV; rintro e w2 ⟨rfl, hb2⟩; have HC : Hid (Cur w2 U s j) := (hb2.block _ (Array.getElem?_eq_some_iff.1 hc1).1).trans hc1; have d1 := HC.out.c1; have f1 := HC.out.f1))
  go_ret2
  exact ⟨rfl, HC.out.set i rfl, (hk1.below hb2).setCell (p := ⟨U, 1, none⟩) (fun _ => rfl) _⟩

set_option maxRecDepth 100000 in
set_option maxHeartbeats 1000000 in
theorem time_ok (U : Nat) (s : ByteArray) (i : Nat) (T : Int) (w : World) (h : Cur w U s i) (hi : i ≤ s.size) (hs : s.size ≤ 1000000000) (hU1 : ∀ W, Kept (fun k => k = U) w W → Nu.Pow W ∧ Nu.Errs W) (hV : Nu.intR (s.extract i (tokP s.data.toList i)) = (T, 0)) (h1 : -9007199254740992 ≤ T) (h2 : T ≤ 9007199254740992) : Calls Tryz.prog 23 #[.pointer (some ⟨U, 0, none⟩)] w fun e w' => e = .returned (.tuple #[.int .i64 T, .int .i64 0]) ∧ Cur w' U s (tokP s.data.toList i) ∧ Kept (fun k => k = U) w w' := by
  have hP := piece_any U s i w h hi hs
  have hsz : (s.extract i (tokP s.data.toList i)).size ≤ 140737488351232 := by
    rw [ByteArray.size_extract]
    omega
  have HV : Hid (∀ W, Kept (fun k => k = U) w W → Calls Tryz.prog 40 #[.string (s.extract i (tokP s.data.toList i))] W fun e w' => e = .returned (.tuple #[.int .i64 T, .int .i64 0]) ∧ Below W.heap.size W w') := fun W hW => by have := Nu.int_any _ W hsz (hU1 W hW).1 (hU1 W hW).2; rw [hV] at this; exact this
  have c1 := h.c1
  generalize tokP s.data.toList i = j at *
  clear h hsz hV hU1
  generalize s.extract i j = t at *
  go_enter Tryz.func23, Tryz.ntmps23
  go_wp2_with (first
    | (go_at_call 39; refine hP.mono ?_; clear hP; rintro e w1 ⟨rfl, hc1, hk1⟩)
    | (go_at_call 40; refine (HV.out _ hk1).mono ?_; clear HV; rintro e w2 ⟨rfl, hb2⟩))
  go_ret2
  exact ⟨rfl, (hb2.block _ (Array.getElem?_eq_some_iff.1 hc1).1).trans hc1, hk1.below hb2⟩
set_option maxRecDepth 100000 in
set_option maxHeartbeats 1000000 in
theorem time_no (U : Nat) (s : ByteArray) (i : Nat) (w : World) (h : Cur w U s i) (hi : i ≤ s.size) (hs : s.size ≤ 1000000000) (hU1 : ∀ W, Kept (fun k => k = U) w W → Nu.Pow W ∧ Nu.Errs W) (hV : (Nu.intR (s.extract i (tokP s.data.toList i))).2 ≠ 0 ∨ (Nu.intR (s.extract i (tokP s.data.toList i))).1 < -9007199254740992 ∨ 9007199254740992 < (Nu.intR (s.extract i (tokP s.data.toList i))).1) : Calls Tryz.prog 23 #[.pointer (some ⟨U, 0, none⟩)] w fun e w' => e = .returned (.tuple #[.int .i64 0, .int .i64 8]) ∧ Cur w' U s i ∧ Kept (fun k => k = U) w w' := by
  have hP := piece_any U s i w h hi hs
  have hsz : (s.extract i (tokP s.data.toList i)).size ≤ 140737488351232 := by
    rw [ByteArray.size_extract]
    omega
  have HV : Hid (∀ W, Kept (fun k => k = U) w W → Calls Tryz.prog 40 #[.string (s.extract i (tokP s.data.toList i))] W fun e w' => e = .returned (.tuple #[.int .i64 (Nu.intR (s.extract i (tokP s.data.toList i))).1, .int .i64 (Nu.intR (s.extract i (tokP s.data.toList i))).2]) ∧ Below W.heap.size W w') := fun W hW => Nu.int_any _ W hsz (hU1 W hW).1 (hU1 W hW).2
  have c1 := h.c1
  generalize tokP s.data.toList i = j at *
  clear h hsz hU1
  generalize s.extract i j = t at *
  generalize (Nu.intR t).1 = T at *
  generalize (Nu.intR t).2 = E at *
  by_cases hE : E = 0
  · subst hE
    have hT : T < -9007199254740992 ∨ 9007199254740992 < T := by omega
    clear hV
    rcases hT with hT | hT
    all_goals
      go_enter Tryz.func23, Tryz.ntmps23
      go_wp2_with (first
        | (go_at_call 39; refine hP.mono ?_; clear hP; rintro e w1 ⟨rfl, hc1, hk1⟩)
        | (go_at_call 40; refine (HV.out _ hk1).mono ?_; clear HV; rintro e w2 ⟨rfl, hb2⟩; have HC : Hid (Cur w2 U s j) := (hb2.block _ (Array.getElem?_eq_some_iff.1 hc1).1).trans hc1; have d1 := HC.out.c1; have f1 := HC.out.f1))
      go_ret2
      exact ⟨rfl, HC.out.set i rfl, (hk1.below hb2).setCell (p := ⟨U, 1, none⟩) (fun _ => rfl) _⟩
  · have hE2 : (E == 0) = false := by simpa using hE
    clear hV
    go_enter Tryz.func23, Tryz.ntmps23
    go_wp2_with (first
      | (go_at_call 39; refine hP.mono ?_; clear hP; rintro e w1 ⟨rfl, hc1, hk1⟩)
      | (go_at_call 40; refine (HV.out _ hk1).mono ?_; clear HV; rintro e w2 ⟨rfl, hb2⟩; have HC : Hid (Cur w2 U s j) := (hb2.block _ (Array.getElem?_eq_some_iff.1 hc1).1).trans hc1; have d1 := HC.out.c1; have f1 := HC.out.f1))
    go_ret2
    exact ⟨rfl, HC.out.set i rfl, (hk1.below hb2).setCell (p := ⟨U, 1, none⟩) (fun _ => rfl) _⟩
end Go.Proofs.YtfckdleahljdeaaGreatDoor
