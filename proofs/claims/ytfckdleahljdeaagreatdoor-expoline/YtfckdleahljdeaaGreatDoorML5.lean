/- Texts that belong together. -/
import Derived.Test.YtfckdleahljdeaaGreatDoorML1
import Derived.Test.YtfckdleahljdeaaGreatDoorSh
import Derived.Laws.OwnMore
/- Which labels may be in a set: the program's rightLabel and the document's fair answer one plain function. -/
namespace Go.Proofs.YtfckdleahljdeaaGreatDoor
open Go.RowKit

/-- utf8's two tables, as their initialisers lay them. -/
def Tabs (w : World) : Prop := Lib.Utf8Tabs (Tryz.laysValid_ren.g 3) (Tryz.laysValid_ren.g 4) w ∧ Tryz.laysValid_ren.g 3 < w.heap.size ∧ Tryz.laysValid_ren.g 4 < w.heap.size
theorem Tabs.below {w w' : World} (h : Tabs w) (hb : Below w.heap.size w w') : Tabs w' := by
  have hs := hb.size
  refine ⟨⟨fun c hc => ?_, fun i hi => ⟨?_, ?_⟩⟩, by have := h.2.1; omega, by have := h.2.2; omega⟩
  · rw [hb.cell (p := ⟨_, c, none⟩) h.2.1]; exact h.1.1 c hc
  · rw [hb.cell (p := ⟨_, 2 * i, none⟩) h.2.2]; exact (h.1.2 i hi).1
  · rw [hb.cell (p := ⟨_, 2 * i + 1, none⟩) h.2.2]; exact (h.1.2 i hi).2

def nameTok : List UInt8 := [95, 95, 110, 97, 109, 101, 95, 95]
def valB (s : ByteArray) : Bool := decide (s.size ≤ 1024) && Lib.validD s.data.toList
def fairL (x : Lb) : Bool := wd false x.1 && valB x.2 && (!(x.1.toList == nameTok) || (x.2.toList.isEmpty || wd true x.2))

theorem refRightName_any (s : ByteArray) (w : World) (hs : s.size ≤ maxLen) :
    Calls Tryz.prog 104 #[.string s] w fun e w' => e = .returned (.bool (wd false s)) ∧ w' = w := by
  go_enter Tryz.func104, Tryz.ntmps104
  go_wp2_with (go_at_call 132; refine (refWord_any _ _ _ hs).mono ?_; rintro e w' ⟨rfl, rfl⟩)
  go_ret
  exact ⟨rfl, rfl⟩
theorem refRightMetric_any (s : ByteArray) (w : World) (hs : s.size ≤ maxLen) :
    Calls Tryz.prog 106 #[.string s] w fun e w' => e = .returned (.bool (wd true s)) ∧ w' = w := by
  go_enter Tryz.func106, Tryz.ntmps106
  go_wp2_with (go_at_call 132; refine (refWord_any _ _ _ hs).mono ?_; rintro e w' ⟨rfl, rfl⟩)
  go_ret
  exact ⟨rfl, rfl⟩
theorem refRightValue_any (s : ByteArray) (w : World) :
    Calls Tryz.prog 105 #[.string s] w fun e w' => e = .returned (.bool (valB s)) ∧ w' = w := by
  by_cases h : s.size ≤ 1024
  · have e : valB s = Lib.validD s.data.toList := by simp [valB, h]
    rw [e]
    have hv := valid_any s w (by omega)
    generalize Lib.validD s.data.toList = r at hv ⊢
    go_enter Tryz.func105, Tryz.ntmps105
    go_wp2_with (go_at_call 69; refine hv.mono ?_; rintro e w' ⟨rfl, rfl⟩)
    go_ret
    exact ⟨rfl, rfl⟩
  · have e : valB s = false := by simp [valB, h]
    rw [e]
    have h' : 1024 < s.size := by omega
    go_enter Tryz.func105, Tryz.ntmps105
    go_wp2
    go_ret
    exact ⟨rfl, rfl⟩

set_option maxRecDepth 100000 in
set_option maxHeartbeats 1000000 in
theorem fair_any (x : Lb) (w : World) (h1 : x.1.size ≤ maxLen) (h2 : x.2.size ≤ maxLen) :
    Calls Tryz.prog 78 #[.agg #[.string x.1, .string x.2]] w fun e w' => e = .returned (.bool (fairL x)) ∧ Below w.heap.size w w' := by
  obtain ⟨n, v⟩ := x
  unfold fairL
  dsimp only at *
  have hR1 := fun W => refRightName_any n W h1
  have hR2 := fun W => refRightValue_any v W
  have hR3 := fun W => refRightMetric_any v W h2
  have HB : Hid (∀ o, Below w.heap.size w (w.alloc o)) := fun o => (Below.refl _ _).alloc (Nat.le_refl _) o
  generalize wd false n = r1 at *
  generalize valB v = r2 at *
  generalize wd true v = r3 at *
  cases r1
  · go_enter Tryz.func78, Tryz.ntmps78
    go_wp2_with (go_at_call 104; refine (hR1 _).mono ?_; rintro e w' ⟨rfl, rfl⟩)
    go_ret
    exact ⟨rfl, HB.out _⟩
  cases r2
  · go_enter Tryz.func78, Tryz.ntmps78
    go_wp2_with (first | (go_at_call 104; refine (hR1 _).mono ?_; rintro e w' ⟨rfl, rfl⟩) | (go_at_call 105; refine (hR2 _).mono ?_; rintro e w' ⟨rfl, rfl⟩))
    go_ret
    exact ⟨rfl, HB.out _⟩
  cases hn : n.toList == nameTok
  · have hn' : (n.toList == [95, 95, 110, 97, 109, 101, 95, 95]) = false := hn
    go_enter Tryz.func78, Tryz.ntmps78
    go_wp2_with (first | (go_at_call 104; refine (hR1 _).mono ?_; rintro e w' ⟨rfl, rfl⟩) | (go_at_call 105; refine (hR2 _).mono ?_; rintro e w' ⟨rfl, rfl⟩))
    all_goals (go_ret; exact ⟨rfl, HB.out _⟩)
  · have hn' : (n.toList == [95, 95, 110, 97, 109, 101, 95, 95]) = true := hn
    cases hv : v.toList.isEmpty
    · go_enter Tryz.func78, Tryz.ntmps78
      go_wp2_with (first | (go_at_call 104; refine (hR1 _).mono ?_; rintro e w' ⟨rfl, rfl⟩) | (go_at_call 105; refine (hR2 _).mono ?_; rintro e w' ⟨rfl, rfl⟩) | (go_at_call 106; refine (hR3 _).mono ?_; rintro e w' ⟨rfl, rfl⟩))
      all_goals (go_ret; exact ⟨by simp, HB.out _⟩)
    · go_enter Tryz.func78, Tryz.ntmps78
      go_wp2_with (first | (go_at_call 104; refine (hR1 _).mono ?_; rintro e w' ⟨rfl, rfl⟩) | (go_at_call 105; refine (hR2 _).mono ?_; rintro e w' ⟨rfl, rfl⟩))
      all_goals (go_ret; exact ⟨by simp, HB.out _⟩)

end Go.Proofs.YtfckdleahljdeaaGreatDoor

/- A set is asked: the document's Has and Get, the program's Get. -/
namespace Go.Proofs.YtfckdleahljdeaaGreatDoor
open Go.RowKit

def hasL (ls : List Lb) (n : ByteArray) : Bool := ls.any fun x => x.1.toList == n.toList
def getL (ls : List Lb) (n : ByteArray) : ByteArray := ((ls.find? fun x => x.1.toList == n.toList).map (·.2)).getD ⟨#[]⟩
def Not (ls : List Lb) (n : ByteArray) (k : Nat) : Prop := ∀ i (h : i < ls.length), i < k → (ls[i].1.toList == n.toList) = false
theorem Not.zero {ls : List Lb} {n : ByteArray} : Not ls n 0 := fun _ _ h => absurd h (Nat.not_lt_zero _)
theorem Not.succ {ls : List Lb} {n : ByteArray} {k : Nat} (h : Not ls n k) (hk : k < ls.length) (hc : (ls[k].1.toList == n.toList) = false) : Not ls n (k + 1) := fun i hi hlt => by
  rcases Nat.lt_succ_iff_lt_or_eq.1 hlt with h1 | h1
  · exact h i hi h1
  · subst h1; exact hc
theorem Not.find {ls : List Lb} {n : ByteArray} {k : Nat} (h : Not ls n k) (hk : k < ls.length) (hc : (ls[k].1.toList == n.toList) = true) : ls.find? (fun x => x.1.toList == n.toList) = some ls[k] := by
  rw [List.find?_eq_some_iff_getElem]
  refine ⟨hc, k, hk, rfl, fun j hj => ?_⟩
  simp only [Bool.not_eq_true', h j (by omega) hj]
theorem Not.none {ls : List Lb} {n : ByteArray} (h : Not ls n ls.length) : ls.find? (fun x => x.1.toList == n.toList) = none := by
  rw [List.find?_eq_none]
  intro x hx
  obtain ⟨i, hi, rfl⟩ := List.getElem_of_mem hx
  simp [h i hi hi]
theorem hasL_find (ls : List Lb) (n : ByteArray) : hasL ls n = (ls.find? fun x => x.1.toList == n.toList).isSome := by
  unfold hasL
  rw [List.isSome_find?]
theorem getL_find (ls : List Lb) (n : ByteArray) : getL ls n = ((ls.find? fun x => x.1.toList == n.toList).map (·.2)).getD ⟨#[]⟩ := rfl
theorem ret_str {a b : ByteArray} (h : a = b) : Ending.returned (.string a) = .returned (.string b) := by rw [h]

/-- One label of a list, in a world that came of the list's. -/
theorem LabsAt.one {w : World} {a : Option Addr} {c : Nat} {ls : List Lb} (h : LabsAt w (.slice a ls.length c) ls) (k : Nat) (hk : k < ls.length) : ∃ b o, a = some ⟨b, o, none⟩ ∧ ∀ w', Below w.heap.size w w' → w'.cell? ⟨b, o + k * 2, none⟩ = some (.string ls[k].1) ∧ w'.cell? ⟨b, o + k * 2 + 1, none⟩ = some (.string ls[k].2) := by
  obtain ⟨a', c', e, -, hc⟩ := h
  cases e
  obtain ⟨b, o, rfl, hb, h1, h2⟩ := hc k hk
  exact ⟨b, o, rfl, fun w' hb' => ⟨(hb'.cell (p := ⟨b, o + k * 2, none⟩) hb).trans h1, (hb'.cell (p := ⟨b, o + k * 2 + 1, none⟩) hb).trans h2⟩⟩

set_option maxRecDepth 100000 in
set_option maxHeartbeats 1000000 in
theorem refHas_any (v : Value) (ls : List Lb) (n : ByteArray) (w : World) (h : LabsAt w v ls) (hl : ls.length ≤ 1000000) :
    Calls Tryz.prog 79 #[v, .string n] w fun e w' => e = .returned (.bool (hasL ls n)) ∧ w' = w := by
  obtain ⟨a, c, rfl, -⟩ := id h
  have HC : Hid (LabsAt w (.slice a ls.length c) ls) := h
  clear h
  go_enter Tryz.func79, Tryz.ntmps79
  go_wp2
  go_loop [5] (fun i => ∃ k : Nat, k ≤ ls.length ∧ i = .int .i64 k ∧ Hid (Not ls n k)) (fun i => ls.length - (intOf i).toNat)
  case atStart => exact ⟨0, Nat.zero_le _, rfl, Not.zero⟩
  case round =>
    obtain ⟨k, hk, rfl, hall⟩ := hrel
    by_cases hlt : k < ls.length
    · obtain ⟨b, o, rfl, hone⟩ := HC.out.one k hlt
      obtain ⟨h0, -⟩ := hone w (Below.refl _ _)
      clear hone HC
      obtain ⟨x, hx⟩ : ∃ x, x = ls[k].1 := ⟨_, rfl⟩
      rw [← hx] at h0
      have HX : Hid (x = ls[k].1) := hx
      clear hx
      cases hxn : x.toList == n.toList
      · have HN : Hid (Not ls n (k + 1)) := hall.out.succ hlt (by rw [← HX.out]; exact hxn)
        clear hall HX
        go_wp2
        go_round
        case rel => exact ⟨k + 1, by omega, by go_num, HN⟩
        case measure => simp [intOf]; omega
      · have HN : Hid (hasL ls n = true) := by
          show _ = _
          rw [hasL_find, hall.out.find hlt (by rw [← HX.out]; exact hxn)]
          rfl
        clear hall HX
        go_wp2
        go_ret
        exact ⟨ret_bool HN.out.symm, rfl⟩
    · have HN : Hid (hasL ls n = false) := by
        have e : k = ls.length := by omega
        subst e
        show _ = _
        rw [hasL_find, hall.out.none]
        rfl
      clear hall HC
      go_wp2
      go_ret
      exact ⟨ret_bool HN.out.symm, rfl⟩

end Go.Proofs.YtfckdleahljdeaaGreatDoor

/- Labels behind a row; the document's put. -/
namespace Go.Proofs.YtfckdleahljdeaaGreatDoor
open Go.RowKit Go.Maps Go.Sort

theorem lbCells_one (l : List Lb) : ∀ u ∈ lbCells l, u.oneCell' = true := fun u hu => by
  simp only [lbCells, List.mem_flatMap] at hu
  obtain ⟨x, _, hx⟩ := hu
  simp at hx
  rcases hx with rfl | rfl <;> rfl

theorem LabsAt.cells {w : World} {b o : Nat} {c : Nat} {ls : List Lb} (h : LabsAt w (.slice (some ⟨b, o, none⟩) ls.length c) ls) : ∀ j u, (lbCells ls)[j]? = some u → w.cell? ((⟨b, o, none⟩ : Addr).add j) = some u := fun j u hu => by
  have hj : j < (lbCells ls).length := by
    rcases Nat.lt_or_ge j (lbCells ls).length with h1 | h1
    · exact h1
    · rw [List.getElem?_eq_none h1] at hu; cases hu
  rw [lbCells_length] at hj
  have hk : j / 2 < ls.length := by omega
  obtain ⟨a', c', e, -, hc⟩ := h
  cases e
  obtain ⟨b', o', e, _, h1, h2⟩ := hc (j / 2) hk
  cases e
  have h3 := lbCells_at ls (j / 2) hk
  rw [Addr.add_lit]
  rcases Nat.mod_two_eq_zero_or_one j with hm | hm
  · have ej : j = j / 2 * 2 := by omega
    rw [ej] at hu ⊢
    rw [h3.1] at hu
    cases hu
    exact h1
  · have ej : j = j / 2 * 2 + 1 := by omega
    rw [ej] at hu ⊢
    rw [h3.2] at hu
    cases hu
    exact h2

theorem run_append_labs (w : World) (ty : TypeId) (base : Nat) (v : Value) (n : Nat) (xs : List Value) (hown : w.ownsRow base 49 2 v n xs) (xv : Value) (nw : List Lb) (hb : LabsAt w xv nw) (hl : n + nw.length ≤ 1000000) (hbase : base ≤ w.heap.size) :
    ∃ v' w', (Builtin.append_ #[25, 25] ty #[v, xv]).run Tryz.prog w = .ok v' w' ∧ w'.ownsRow base 49 2 v' (n + nw.length) (xs ++ lbCells nw) ∧ w.grownBy w' v.ownBlock ∧ (v'.ownBlock = v.ownBlock ∨ v'.ownBlock = some w.heap.size) := by
  obtain ⟨i0, hi0, hz0, hz1, hz2⟩ := info_parts infoLb
  obtain ⟨a, c, rfl, hlc, -⟩ := id hb
  have hnone : nw = [] → a = none → ∃ v' w', (Builtin.append_ #[25, 25] ty #[v, .slice a nw.length c]).run Tryz.prog w = .ok v' w' ∧ w'.ownsRow base 49 2 v' (n + nw.length) (xs ++ lbCells nw) ∧ w.grownBy w' v.ownBlock ∧ (v'.ownBlock = v.ownBlock ∨ v'.ownBlock = some w.heap.size) := fun e1 e2 => by
    subst e1 e2
    exact ⟨v, w, run_append_owned_none (P := Tryz.prog) (w := w) base 25 ty 49 i0 2 Tryz.underlying25 hi0 v n xs hown, by simpa [lbCells] using hown, ⟨rfl, rfl, rfl, Nat.le_refl _, fun _ _ _ => rfl⟩, Or.inl rfl⟩
  have hsome : ∀ ad : Addr, a = some ad → (∀ j u, (lbCells nw)[j]? = some u → w.cell? (ad.add j) = some u) → ∃ v' w', (Builtin.append_ #[25, 25] ty #[v, .slice a nw.length c]).run Tryz.prog w = .ok v' w' ∧ w'.ownsRow base 49 2 v' (n + nw.length) (xs ++ lbCells nw) ∧ w.grownBy w' v.ownBlock ∧ (v'.ownBlock = v.ownBlock ∨ v'.ownBlock = some w.heap.size) := fun ad e hcell => by
    subst e
    obtain ⟨v', w', hr, h2, h3, _, h5⟩ := run_append_own_at (P := Tryz.prog) w base 25 ty 49 i0 _ 2 32 Tryz.underlying25 hi0 hz0 hz1 hz2 rfl (by decide) v n xs hown ad nw.length c (lbCells nw) (lbCells_length nw) hcell (lbCells_one nw) (by unfold maxLen; omega) (by omega) hbase
    exact ⟨v', w', hr, h2, h3, h5⟩
  cases nw with
  | nil =>
    cases a with
    | none => exact hnone rfl rfl
    | some ad => exact hsome ad rfl (fun j u hu => by simp [lbCells] at hu)
  | cons x r =>
    obtain ⟨a', c', e, -, hc⟩ := id hb
    cases e
    obtain ⟨b, o, rfl, -⟩ := hc 0 (by simp)
    exact hsome _ rfl hb.cells

theorem wpList_append_labs (w : World) {ops : Array Oper} {rest : List Oper} {o : Oper} {a : Act} {Q : Exit → Act → World → Prop} (hgd : o.guard = none) (s x : Operand)
    (ho : o.op = .call { callee := .builtin .append, args := #[s, x], argTypes := #[25, 25] }) (base : Nat) (v : Value) (n : Nat) (xs : List Value) (hs : a.eval s = v) (hown : w.ownsRow base 49 2 v n xs)
    (xv : Value) (nw : List Lb) (hx : a.eval x = xv) (hb : LabsAt w xv nw) (hl : n + nw.length ≤ 1000000) (hbase : base ≤ w.heap.size)
    (h : ∀ v' w', w'.ownsRow base 49 2 v' (n + nw.length) (xs ++ lbCells nw) → w.grownBy w' v.ownBlock → (v'.ownBlock = v.ownBlock ∨ v'.ownBlock = some w.heap.size) → wpList Tryz.prog ops Q rest (a.put o.dst v') w') :
    wpList Tryz.prog ops Q (o :: rest) a w := by
  refine wpList_plain hgd fun K hK => ?_
  obtain ⟨v', w', hr, h2, h3, h4⟩ := run_append_labs w o.type base v n xs hown xv nw hb hl hbase
  unfold Oper.wp execOp
  simp only [ho, resolve, invoke, builtin, Sem.run_bind, Sem.run_pure, Result.andThen_ok, List.map_toArray, List.map_cons, List.map_nil, hs, hx, hr]
  exact hK _ _ (h v' w' h2 h3 h4)

/-- A label in a block of its own, as a slice of one. -/
theorem LabsAt.lone {w : World} {g : Nat} {x y : ByteArray} {t : TypeId} {fr : Nat × Nat} (h : w.heap[g]? = some (.cells #[.string x, .string y] t fr)) : LabsAt w (.slice (some ⟨g, 0, none⟩) 1 1) [(x, y)] := by
  refine ⟨some ⟨g, 0, none⟩, 1, rfl, ⟨Nat.le_refl _, by decide⟩, fun k hk => ?_⟩
  have : k = 0 := by simpa using hk
  subst this
  refine ⟨g, 0, rfl, (Array.getElem?_eq_some_iff.1 h).1, ?_, ?_⟩
  · exact World.news_of_block h 0 (.string x) rfl
  · exact World.news_of_block h 1 (.string y) rfl

theorem LabsAt.take {w : World} {a : Option Addr} {n c : Nat} {ls : List Lb} (h : LabsAt w (.slice a n c) ls) (k : Nat) (hk : k ≤ n) : LabsAt w (.slice a k c) (ls.take k) := by
  obtain ⟨a', c', e, hlc, hc⟩ := h
  cases e
  have hl : (ls.take k).length = k := by simp; omega
  refine ⟨a, c, by rw [hl], ⟨by omega, hlc.2⟩, fun i hi => ?_⟩
  obtain ⟨b, o, e, h1, h2, h3⟩ := hc i (by omega)
  exact ⟨b, o, e, h1, by rw [h2]; simp, by rw [h3]; simp⟩
theorem LabsAt.drop {w : World} {b o n c : Nat} {ls : List Lb} (h : LabsAt w (.slice (some ⟨b, o, none⟩) n c) ls) (k : Nat) (hk : k ≤ n) : LabsAt w (.slice (some ⟨b, o + k * 2, none⟩) (n - k) (c - k)) (ls.drop k) := by
  obtain ⟨a', c', e, hlc, hc⟩ := h
  cases e
  have hl : (ls.drop k).length = ls.length - k := by simp
  refine ⟨_, _, by rw [hl], ⟨by omega, by have := hlc.2; omega⟩, fun i hi => ?_⟩
  obtain ⟨b', o', e, h1, h2, h3⟩ := hc (k + i) (by omega)
  cases e
  refine ⟨b, o + k * 2, rfl, h1, ?_, ?_⟩
  · rw [show o + k * 2 + i * 2 = o + (k + i) * 2 by omega, h2]; simp
  · rw [show o + k * 2 + i * 2 + 1 = o + (k + i) * 2 + 1 by omega, h3]; simp

def lessL (x : ByteArray) (y : Lb) : Bool := Op.bytesLess y.1.toList x.toList
def putL (ls : List Lb) (x : Lb) : List Lb := ls.takeWhile (lessL x.1) ++ x :: ls.dropWhile (lessL x.1)
def Upto (ls : List Lb) (x : ByteArray) (k : Nat) : Prop := ∀ i (h : i < ls.length), i < k → lessL x ls[i] = true
theorem Upto.split : ∀ {ls : List Lb} {x : ByteArray} {k : Nat}, Upto ls x k → k ≤ ls.length → (∀ h : k < ls.length, lessL x ls[k] = false) → ls.takeWhile (lessL x) = ls.take k ∧ ls.dropWhile (lessL x) = ls.drop k
  | [], _, k, _, hk, _ => by simp
  | y :: r, x, 0, _, _, h2 => by
    have := h2 (by simp)
    simp at this
    simp [this]
  | y :: r, x, k + 1, h1, hk, h2 => by
    have h3 := h1 0 (by simp) (by omega)
    simp at h3
    have := Upto.split (ls := r) (x := x) (k := k) (fun i hi hlt => by have := h1 (i + 1) (by simpa using hi) (by omega); simpa using this) (by simpa using hk) (fun h => by have := h2 (by simpa using h); simpa using this)
    simp [h3, this.1, this.2]

theorem row_empty (W : World) (base : Nat) (hb : base ≤ W.heap.size) : (W.alloc (.cells #[] 49 (0, 0))).ownsRow base 49 2 (.slice (some ⟨W.heap.size, 0, none⟩) 0 0) 0 [] :=
  ⟨rfl, Or.inr ⟨W.heap.size, 0, #[], rfl, hb, heap_alloc_new W _, Nat.le_refl _, Nat.zero_le _, rfl, rfl⟩⟩
theorem row_lo {w : World} {base size n : Nat} {e : TypeId} {v : Value} {xs : List Value} (h : w.ownsRow base e size v n xs) : ∀ j, v.ownBlock = some j → base ≤ j := fun j hj => (h.lt j hj).1
theorem below_grown {w wr w1 : World} {v : Value} (hb : Below w.heap.size w wr) (hlo : ∀ j, v.ownBlock = some j → w.heap.size ≤ j) (hg : wr.grownBy w1 v.ownBlock) : Below w.heap.size w w1 :=
  hb.grown hg hb.size hlo

theorem put_first {w wq w1 : World} {nm vl : ByteArray} {k : Nat} {lt : List Lb} {v1 : Value} (hb2 : Below w.heap.size w wq) (hX2 : wq.heap[w.heap.size]? = some (.cells #[.string nm, .string vl] 49 (0, 0))) (hl' : lt.length = k)
    (hr1 : w1.ownsRow w.heap.size 49 2 v1 (0 + lt.length) ([] ++ lbCells lt)) (hg1 : (wq.alloc (.cells #[] 49 (0, 0))).grownBy w1 (Value.slice (some ⟨wq.heap.size, 0, none⟩) 0 0).ownBlock) :
    w1.ownsRow w.heap.size 49 2 v1 k (lbCells lt) ∧ Below w.heap.size w w1 ∧ w1.cell? ⟨w.heap.size, 0, none⟩ = some (.string nm) ∧ w1.cell? ⟨w.heap.size, 1, none⟩ = some (.string vl) ∧ w.heap.size ≤ w1.heap.size := by
  have hlt : w.heap.size < wq.heap.size := (Array.getElem?_eq_some_iff.1 hX2).1
  have hb3w : Below wq.heap.size wq w1 := ((Below.refl _ wq).alloc (Nat.le_refl _) _).grown hg1 (by simp) (fun j hj => by cases hj; exact Nat.le_refl _)
  have hb3 := hb2.trans (hb3w.mono hb2.size)
  refine ⟨by rw [hl', Nat.zero_add] at hr1; exact hr1, hb3, ?_, ?_, hb3.size⟩
  · exact (hb3w.cell (p := ⟨w.heap.size, 0, none⟩) hlt).trans (World.news_of_block hX2 0 _ rfl)
  · exact (hb3w.cell (p := ⟨w.heap.size, 1, none⟩) hlt).trans (World.news_of_block hX2 1 _ rfl)

set_option maxRecDepth 100000 in
set_option maxHeartbeats 2000000 in
theorem put_any (v : Value) (ls : List Lb) (x : Lb) (w : World) (h : LabsAt w v ls) (hl : ls.length ≤ 1000) :
    Calls Tryz.prog 80 #[v, .agg #[.string x.1, .string x.2]] w fun e w' => ∃ v', e = .returned v' ∧ w'.ownsRow w.heap.size 49 2 v' (putL ls x).length (lbCells (putL ls x)) ∧ Below w.heap.size w w' := by
  obtain ⟨nm, vl⟩ := x
  obtain ⟨a, c, rfl, hlc, -⟩ := id h
  have HC : Hid (LabsAt w (.slice a ls.length c) ls) := h
  clear h
  go_enter Tryz.func80, Tryz.ntmps80
  go_wp2
  obtain ⟨W0, hW0⟩ : ∃ W0, W0 = w.alloc (.cells #[.string nm, .string vl] 49 (0, 0)) := ⟨_, rfl⟩
  have HB0 : Hid (Below w.heap.size w W0) := by rw [hW0]; exact (Below.refl _ _).alloc (Nat.le_refl _) _
  have HX : Hid (W0.heap[w.heap.size]? = some (.cells #[.string nm, .string vl] 49 (0, 0))) := by rw [hW0]; exact heap_alloc_new w _
  rw [← hW0]
  clear hW0
  go_loopw [5] (fun i wr => ∃ k q : Nat, k ≤ ls.length ∧ i = .int .i64 k ∧ wr = W0.drewN q ∧ Hid (Upto ls nm k)) (fun i _ => ls.length - (intOf i).toNat)
  case atStart => exact ⟨0, 0, Nat.zero_le _, rfl, rfl, fun _ _ h => absurd h (Nat.not_lt_zero _)⟩
  case round =>
    obtain ⟨k, q, hk, rfl, rfl, hall⟩ := hrel
    have hb1 : Hid (Below w.heap.size w (W0.drewN q)) := below_drewN HB0.out q
    have hX1 : Hid ((W0.drewN q).heap[w.heap.size]? = some (.cells #[.string nm, .string vl] 49 (0, 0))) := HX.out
    have hQ : Hid (∀ m, W0.drewN (q + m) = (W0.drewN q).drewN m) := fun m => (World.drewN_drewN _ _ _).symm
    generalize W0.drewN q = wr at *
    have hkl' : (k : Int) ≤ (ls.length : Int) := by omega
    have hkc : (k : Int) ≤ (c : Int) := by omega
    have hkc' : k ≤ c := by omega
    have hl' : (ls.take k).length = k := by simp; omega
    have HL : Hid (∀ W, Below w.heap.size w W → LabsAt W (.slice a k c) (ls.take k)) := fun W hb => (HC.out.below hb).take k hk
    have HP : Hid ((∀ hh : k < ls.length, lessL nm ls[k] = false) → putL ls (nm, vl) = ls.take k ++ (nm, vl) :: ls.drop k) := fun hh => by
      have := hall.out.split hk hh
      unfold putL
      rw [this.1, this.2]
    by_cases hlt : k < ls.length
    · obtain ⟨b, o, rfl, hone⟩ := HC.out.one k hlt
      obtain ⟨h0, -⟩ := hone wr hb1.out
      clear hone
      have HD : Hid (∀ W, Below w.heap.size w W → LabsAt W (.slice (some ⟨b, o + k * 2, none⟩) (ls.length - k) (c - k)) (ls.drop k)) := fun W hb => (HC.out.below hb).drop k hk
      have hx0 : wr.cell? ⟨w.heap.size, 0, none⟩ = some (.string nm) := World.news_of_block hX1.out 0 _ rfl
      have hkl : (k : Int) < (ls.length : Int) := by omega
      obtain ⟨x, hx⟩ : ∃ x, x = ls[k].1 := ⟨_, rfl⟩
      rw [← hx] at h0
      have HXk : Hid (lessL nm ls[k] = Op.bytesLess x.toList nm.toList) := by rw [hx]; exact rfl
      clear hx
      cases hxn : Op.bytesLess x.toList nm.toList
      · have HP' : Hid (putL ls (nm, vl) = ls.take k ++ (nm, vl) :: ls.drop k) := HP.out (fun _ => HXk.out.trans hxn)
        clear HP HXk hall
        go_wp2
        go_quiet (fail)
        have hb2 := below_drewN hb1.out nq
        have hX2 : (wr.drewN nq).heap[w.heap.size]? = some (.cells #[.string nm, .string vl] 49 (0, 0)) := hX1.out
        clear hb1 hX1 hQ h0 hx0
        generalize wr.drewN nq = wq at *
        have hlt' : w.heap.size < wq.heap.size := (Array.getElem?_eq_some_iff.1 hX2).1
        go_wp2_with (first
          | (at_builtin; refine wpList_append_labs _ rfl _ _ rfl w.heap.size (.slice (some ⟨wq.heap.size, 0, none⟩) 0 0) 0 [] rfl (row_empty wq _ hb2.size) _ (ls.take k) rfl (HL.out _ (hb2.alloc hb2.size _)) (by omega) (by have := hb2.size; simp; omega) ?_; intro v1 w1 hr1 hg1 _; obtain ⟨hr1, hb3, c10, c11, hs3⟩ := put_first hb2 hX2 hl' hr1 hg1)
          | (at_builtin; refine wpList_append_labs _ rfl _ _ rfl w.heap.size v1 k (lbCells (ls.take k)) rfl (hr1.alloc _) _ [(nm, vl)] rfl (LabsAt.lone (heap_alloc_new w1 _)) (by simp; omega) (by simp; omega) ?_; intro v2 w2 hr2 hg2 _; have hb4 := below_grown (hb3.alloc hb3.size _) (row_lo hr1) hg2; have hs4 := hb4.size; clear hr1 c10 c11 hg1 hg2)
          | (at_builtin; refine wpList_append_labs _ rfl _ _ rfl w.heap.size v2 (k + [(nm, vl)].length) _ rfl hr2 _ (ls.drop k) rfl (HD.out _ hb4) (by simp; omega) hs4 ?_; intro v3 w3 hr3 hg3 _; have hb5 := below_grown hb4 (row_lo hr2) hg3))
        all_goals
          go_ret
          refine ⟨_, rfl, ?_, hb5⟩
          have e : lbCells (putL ls (nm, vl)) = lbCells (ls.take k) ++ lbCells [(nm, vl)] ++ lbCells (ls.drop k) := by rw [HP'.out, ← List.singleton_append, ← List.append_assoc, lbCells_append, lbCells_append]
          have e2 : (putL ls (nm, vl)).length = k + [(nm, vl)].length + (ls.drop k).length := by rw [HP'.out]; simp <;> omega
          rw [e, e2]
          exact hr3
      · go_wp2
        go_quiet (fail)
        go_wp2
        go_roundw
        case rel => exact ⟨k + 1, q + nq, by omega, by go_num, (hQ.out nq).symm, fun i hi hlt' => by
          rcases Nat.lt_succ_iff_lt_or_eq.1 hlt' with h1 | h1
          · exact hall.out i hi h1
          · subst h1; exact HXk.out.trans hxn⟩
        case measure => simp [intOf]; omega
    · have HP' : Hid (putL ls (nm, vl) = ls.take k ++ (nm, vl) :: ls.drop k) := HP.out (fun hh => absurd hh hlt)
      have ek : k = ls.length := by omega
      have HD : Hid (∀ W a' c', c' ≤ maxLen → LabsAt W (.slice a' 0 c') (ls.drop k)) := fun W a' c' hc' => by
        rw [List.drop_of_length_le (by omega)]; exact LabsAt.nil hc'
      have hnk : (ls.length : Int) ≤ (k : Int) := by omega
      clear HP hall HC hQ hnk
      subst ek
      go_wp2
      go_quiet (fail)
      have hb2 := below_drewN hb1.out nq
      have hX2 : (wr.drewN nq).heap[w.heap.size]? = some (.cells #[.string nm, .string vl] 49 (0, 0)) := hX1.out
      clear hb1 hX1
      generalize wr.drewN nq = wq at *
      cases a with
      | none =>
        have hlt' : w.heap.size < wq.heap.size := (Array.getElem?_eq_some_iff.1 hX2).1
        go_wp2_with (first
          | (at_builtin; refine wpList_append_labs _ rfl _ _ rfl w.heap.size (.slice (some ⟨wq.heap.size, 0, none⟩) 0 0) 0 [] rfl (row_empty wq _ hb2.size) _ (ls.take ls.length) rfl (HL.out _ (hb2.alloc hb2.size _)) (by omega) (by have := hb2.size; simp; omega) ?_; intro v1 w1 hr1 hg1 _; obtain ⟨hr1, hb3, c10, c11, hs3⟩ := put_first hb2 hX2 hl' hr1 hg1)
          | (at_builtin; refine wpList_append_labs _ rfl _ _ rfl w.heap.size v1 ls.length (lbCells (ls.take ls.length)) rfl (hr1.alloc _) _ [(nm, vl)] rfl (LabsAt.lone (heap_alloc_new w1 _)) (by simp; omega) (by simp; omega) ?_; intro v2 w2 hr2 hg2 _; have hb4 := below_grown (hb3.alloc hb3.size _) (row_lo hr1) hg2; have hs4 := hb4.size; clear hr1 c10 c11 hg1 hg2)
          | (at_builtin; refine wpList_append_labs _ rfl _ _ rfl w.heap.size v2 (ls.length + [(nm, vl)].length) _ rfl hr2 _ (ls.drop ls.length) rfl (HD.out _ _ _ (by omega)) (by simp; omega) hs4 ?_; intro v3 w3 hr3 hg3 _; have hb5 := below_grown hb4 (row_lo hr2) hg3))
        all_goals
          go_ret
          refine ⟨_, rfl, ?_, hb5⟩
          have e : lbCells (putL ls (nm, vl)) = lbCells (ls.take ls.length) ++ lbCells [(nm, vl)] ++ lbCells (ls.drop ls.length) := by rw [HP'.out, ← List.singleton_append, ← List.append_assoc, lbCells_append, lbCells_append]
          have e2 : (putL ls (nm, vl)).length = ls.length + [(nm, vl)].length + (ls.drop ls.length).length := by rw [HP'.out]; simp <;> omega
          rw [e, e2]
          exact hr3
      | some ad =>
        have hlt' : w.heap.size < wq.heap.size := (Array.getElem?_eq_some_iff.1 hX2).1
        go_wp2_with (first
          | (at_builtin; refine wpList_append_labs _ rfl _ _ rfl w.heap.size (.slice (some ⟨wq.heap.size, 0, none⟩) 0 0) 0 [] rfl (row_empty wq _ hb2.size) _ (ls.take ls.length) rfl (HL.out _ (hb2.alloc hb2.size _)) (by omega) (by have := hb2.size; simp; omega) ?_; intro v1 w1 hr1 hg1 _; obtain ⟨hr1, hb3, c10, c11, hs3⟩ := put_first hb2 hX2 hl' hr1 hg1)
          | (at_builtin; refine wpList_append_labs _ rfl _ _ rfl w.heap.size v1 ls.length (lbCells (ls.take ls.length)) rfl (hr1.alloc _) _ [(nm, vl)] rfl (LabsAt.lone (heap_alloc_new w1 _)) (by simp; omega) (by simp; omega) ?_; intro v2 w2 hr2 hg2 _; have hb4 := below_grown (hb3.alloc hb3.size _) (row_lo hr1) hg2; have hs4 := hb4.size; clear hr1 c10 c11 hg1 hg2)
          | (at_builtin; refine wpList_append_labs _ rfl _ _ rfl w.heap.size v2 (ls.length + [(nm, vl)].length) _ rfl hr2 _ (ls.drop ls.length) rfl (HD.out _ _ _ (by omega)) (by simp; omega) hs4 ?_; intro v3 w3 hr3 hg3 _; have hb5 := below_grown hb4 (row_lo hr2) hg3))
        all_goals
          go_ret
          refine ⟨_, rfl, ?_, hb5⟩
          have e : lbCells (putL ls (nm, vl)) = lbCells (ls.take ls.length) ++ lbCells [(nm, vl)] ++ lbCells (ls.drop ls.length) := by rw [HP'.out, ← List.singleton_append, ← List.append_assoc, lbCells_append, lbCells_append]
          have e2 : (putL ls (nm, vl)).length = ls.length + [(nm, vl)].length + (ls.drop ls.length).length := by rw [HP'.out]; simp <;> omega
          rw [e, e2]
          exact hr3

end Go.Proofs.YtfckdleahljdeaaGreatDoor
