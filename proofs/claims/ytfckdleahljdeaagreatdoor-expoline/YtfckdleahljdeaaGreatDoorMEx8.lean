/- A cursor on a line: the labels. -/
import Derived.Test.YtfckdleahljdeaaGreatDoorMEx7
import Derived.Maps.OwnOps
import Derived.Maps.OwnSet
import Derived.StringKeys
import Derived.WalkMore
namespace Go.Proofs.YtfckdleahljdeaaGreatDoor
open Go.RowKit Go.Maps

theorem keyedS : Keyed Tryz.prog 9 := string_keyed Tryz.underlying9
theorem zeroI (w : World) : (zeroValue 3).run Tryz.prog w = .ok (.int .i64 0) w := by kernel_rfl
/-- The names that were met: how often. -/
def Met (W : World) (M : Nat) (acc : List Lb) : Prop := ∃ D : DataW Unit, W.ownsMap Tryz.prog 9 (plainElem Tryz.prog 3) M acc.length D ∧ ∀ n : ByteArray, D.atKey (.string n.data.toList) (.lit (.int .i64 0)) = .lit (.int .i64 (if hasL acc n = true then 1 else 0))
theorem metKept {W W' : World} {M : Nat} {acc : List Lb} (h : Met W M acc) (hb : W'.heap[M]? = W.heap[M]?) : Met W' M acc := by
  obtain ⟨D, ⟨es, ck, h1, h2⟩, h3⟩ := h
  exact ⟨D, ⟨es, ck, hb.trans h1, h2⟩, h3⟩
theorem hasL_snoc (acc : List Lb) (x : Lb) (n : ByteArray) : hasL (acc ++ [x]) n = true ↔ hasL acc n = true ∨ x.1 = n := by
  rw [hasL_iff, hasL_iff]
  unfold names
  simp only [List.map_append, List.mem_append, List.map_cons, List.map_nil, List.mem_singleton]
  constructor
  · rintro (h | h)
    · exact Or.inl h
    · refine Or.inr ?_
      rw [ByteArray.toList_eq, ByteArray.toList_eq] at h
      exact ByteArray.ext (Array.toList_inj.1 h).symm
  · rintro (h | rfl)
    · exact Or.inl h
    · exact Or.inr rfl
/-- One more name, that was not met. -/
theorem metNext {W : World} {M : Nat} {acc : List Lb} {x : Lb} {D : DataW Unit} (_hx : hasL acc x.1 = false) (hD : IsMap D) (h3 : ∀ n : ByteArray, D.atKey (.string n.data.toList) (.lit (.int .i64 0)) = .lit (.int .i64 (if hasL acc n = true then 1 else 0)))
    (h : W.ownsMap Tryz.prog 9 (plainElem Tryz.prog 3) M (acc.length + 1) (D.put (.string x.1.data.toList) (.lit (.int .i64 1)))) : Met W M (acc ++ [x]) := by
  refine ⟨_, by rw [List.length_append]; exact h, fun n => ?_⟩
  by_cases e : x.1 = n
  · subst e
    rw [atKey_put_same hD (by simp [WideAt.IsKeyLit]), if_pos ((hasL_snoc _ _ _).2 (Or.inr rfl))]
  · rw [atKey_put_other (fun e2 => e (ByteArray.ext (Array.toList_inj.1 (Lit.string.inj e2)).symm)), h3 n]
    by_cases h4 : hasL acc n = true
    · rw [if_pos h4, if_pos ((hasL_snoc _ _ _).2 (Or.inl h4))]
    · rw [if_neg h4, if_neg (fun h5 => ((hasL_snoc _ _ _).1 h5).elim h4 e)]

/-- While labels are read. -/
structure LbsS (w W : World) (U M Q : Nat) (s : ByteArray) (j : Nat) (v : Value) (x0 : Lb) (acc : List Lb) : Prop where
  cur : Cur W U s j
  row : W.ownsRow Q 49 2 v (x0 :: acc).length (lbCells (x0 :: acc))
  met : Met W M acc
  kept : Kept (fun k => k = U ∨ Q ≤ k) w W
theorem Met.lt {W : World} {M : Nat} {acc : List Lb} (h : Met W M acc) : M < W.heap.size := by
  obtain ⟨D, h1, _⟩ := h
  exact h1.lt
theorem LbsS.move {w W W' : World} {U M Q : Nat} {s : ByteArray} {j j' : Nat} {v : Value} {x0 : Lb} {acc : List Lb} (h : LbsS w W U M Q s j v x0 acc) (hU : U < Q) (hM : M ≠ U) (hk : Kept (fun k => k = U) W W') (hc : Cur W' U s j') : LbsS w W' U M Q s j' v x0 acc :=
  ⟨hc, hk.ownsRow h.row (fun k hk1 => by have := row_lo h.row k hk1; omega), metKept h.met (hk.block M h.met.lt hM), h.kept.trans hk (fun _ _ h => Or.inl h)⟩
theorem LbsS.below {w W W' : World} {U M Q : Nat} {s : ByteArray} {j : Nat} {v : Value} {x0 : Lb} {acc : List Lb} (h : LbsS w W U M Q s j v x0 acc) (hb : Below W.heap.size W W') : LbsS w W' U M Q s j v x0 acc :=
  ⟨h.cur.below hb h.cur.lt, row_below h.row hb, metKept h.met (hb.block M h.met.lt), h.kept.below hb⟩

/-- The row is no map. -/
theorem rowNotMet {W : World} {M Q n : Nat} {v : Value} {xs : List Value} {acc : List Lb} (h : W.ownsRow Q 49 2 v n xs) (hm : Met W M acc) : v.ownBlock ≠ some M := fun e => by
  obtain ⟨D, ⟨es, ck, h1, _⟩, _⟩ := hm
  rcases h.2 with ⟨rfl, _⟩ | ⟨g, cap, cur, rfl, hg, hh, r⟩
  · cases e
  · have : g = M := by simpa [Value.ownBlock] using e
    subst this
    rw [hh] at h1
    cases h1
theorem grownHeap {a b : World} {row : Option Nat} (g : a.grownBy b row) {k : Nat} {o : Obj} (h : a.heap[k]? = some o) (hn : some k ≠ row) : b.heap[k]? = some o := (g.block k (Array.getElem?_eq_some_iff.1 h).1 hn).trans h
/-- The map was turned: the cursor and the row stand. -/
theorem LbsS.turned {w W W' : World} {U M Q : Nat} {s : ByteArray} {j : Nat} {v : Value} {x0 : Lb} {acc acc' : List Lb} (h : LbsS w W U M Q s j v x0 acc) (hU : U < Q) (hQ : Q ≤ w.heap.size) (hM : w.heap.size ≤ M) (g : W.grownBy W' (some M)) (hm : Met W' M acc') : Cur W' U s j ∧ W'.ownsRow Q 49 2 v (x0 :: acc).length (lbCells (x0 :: acc)) ∧ Met W' M acc' ∧ Kept (fun k => k = U ∨ Q ≤ k) w W' :=
  ⟨grownHeap g h.cur (fun e => by have := Option.some.inj e; omega), h.row.kept g (Or.inr (rowNotMet h.row h.met)), hm, h.kept.grown g (fun k _ e => Or.inr (by have := Option.some.inj e; omega))⟩
theorem lit_int {c d : Int} (h : (DataW.lit (.int .i64 c) : DataW Unit) = .lit (.int .i64 d)) : c = d := by
  cases h
  rfl
/-- One more label behind the row. -/
theorem LbsS.next {w W4 W5 : World} {U M Q : Nat} {s : ByteArray} {j : Nat} {v v' : Value} {x0 x : Lb} {acc : List Lb} {o : Obj} (hc : Cur W4 U s j) (hrow : W4.ownsRow Q 49 2 v (x0 :: acc).length (lbCells (x0 :: acc))) (hm : Met W4 M (acc ++ [x])) (hk : Kept (fun k => k = U ∨ Q ≤ k) w W4) (hU : U < Q)
    (hr : W5.ownsRow Q 49 2 v' (x0 :: (acc ++ [x])).length (lbCells (x0 :: acc) ++ lbCells [x])) (g : (W4.alloc o).grownBy W5 v.ownBlock) : LbsS w W5 U M Q s j v' x0 (acc ++ [x]) := by
  refine ⟨grownHeap g (hc.below ((Below.refl _ _).alloc (Nat.le_refl _) _) hc.lt) (fun e => by have := row_lo hrow U e.symm; omega), ?_, metKept hm ?_, (hk.alloc o).grown g (fun k _ e => Or.inr (row_lo hrow k e))⟩
  · rw [show lbCells (x0 :: (acc ++ [x])) = lbCells (x0 :: acc) ++ lbCells [x] from lbCells_append (x0 :: acc) [x]]
    exact hr
  · have hlt := hm.lt
    exact (g.block M (by simp; omega) (fun e => rowNotMet hrow hm e.symm)).trans (Below.heap_alloc W4 o M hlt)
/-- A name is looked up in what was met. -/
def LkM (W : World) (M : Nat) (key : ByteArray) (n : Nat) (D : DataW Unit) (v : Int) : Prop := W.ownsMap Tryz.prog 9 (plainElem Tryz.prog 3) M n D ∧ D.atKey (.string key.data.toList) (.lit (.int .i64 0)) = .lit (.int .i64 v)
theorem LkM.put {W W' : World} {M n : Nat} {key : ByteArray} {D : DataW Unit} {v v' : Int} (h : LkM W M key n D v) (h' : W'.ownsMap Tryz.prog 9 (plainElem Tryz.prog 3) M (n + 1) (D.put (.string key.data.toList) (.lit (.int .i64 v')))) : LkM W' M key (n + 1) (D.put (.string key.data.toList) (.lit (.int .i64 v'))) v' :=
  ⟨h', atKey_put_same (k := .string key.data.toList) h.1.isMap (by simp [WideAt.IsKeyLit]) _ _⟩
theorem Met.look {W : World} {M : Nat} {acc : List Lb} (h : Met W M acc) (n : ByteArray) : ∃ D, LkM W M n acc.length D (if hasL acc n = true then 1 else 0) ∧ ∀ (W' : World) (x : Lb), x.1 = n → hasL acc n = false → W'.ownsMap Tryz.prog 9 (plainElem Tryz.prog 3) M (acc.length + 1) (D.put (.string n.data.toList) (.lit (.int .i64 1))) → Met W' M (acc ++ [x]) := by
  obtain ⟨D, h1, h3⟩ := h
  exact ⟨D, ⟨h1, h3 n⟩, fun W' x hx hn h' => by subst hx; exact metNext hn h1.isMap h3 h'⟩
/-- What is answered of labels. -/
def LbsP (w : World) (U Q : Nat) (s : ByteArray) (x0 : Lb) (R : (Nat × Int) ⊕ (List Lb × Nat)) (e : Ending) (w' : World) : Prop := match R with
  | .inl (p, er) => e = .returned (.tuple #[.slice none 0 0, .int .i64 er]) ∧ Cur w' U s p ∧ Kept (fun k => k = U ∨ Q ≤ k) w w'
  | .inr (ls, p) => ∃ v', e = .returned (.tuple #[v', .int .i64 0]) ∧ w'.ownsRow Q 49 2 v' (x0 :: ls).length (lbCells (x0 :: ls)) ∧ Cur w' U s p ∧ Kept (fun k => k = U ∨ Q ≤ k) w w'

set_option maxRecDepth 100000 in
set_option maxHeartbeats 4000000 in
theorem labels_any (B U Q : Nat) (s : ByteArray) (i : Nat) (v0 : Value) (x0 : Lb) (w : World) (h : Cur w U s i) (hB : B ≤ U) (hUQ : U < Q) (hQ : Q ≤ w.heap.size) (hE : Env w B) (hi : i ≤ s.size) (hs : s.size ≤ 900000) (hrow : w.ownsRow Q 49 2 v0 1 (lbCells [x0])) :
    Calls Tryz.prog 20 #[.pointer (some ⟨U, 0, none⟩), v0] w fun e w' => LbsP w U Q s x0 (labsR s (s.size + 1) i []) e w' := by
  obtain ⟨a0, c0, rfl⟩ := slice_of_row hrow
  obtain ⟨R, hR⟩ : ∃ R, R = labsR s (s.size + 1) i [] := ⟨_, rfl⟩
  rw [← hR]
  have HE : Hid (∀ W, Kept (fun k => k = U ∨ Q ≤ k) w W → Env W B) := fun W hk => hE.below (hk.toBelow (by omega) (fun k hk => by omega))
  have HS0 : Hid (LbsS w (w.alloc (.map #[] 0)) U w.heap.size Q s i (.slice a0 1 c0) x0 []) := ⟨h.below ((Below.refl _ _).alloc (Nat.le_refl _) _) h.lt, hrow.alloc _, ⟨.map [], World.ownsMap_made w _ _ _, fun n => rfl⟩, (Kept.refl _ _).alloc _⟩
  have HR : Hid (labsR s (s.size + 1) i [] = R) := hR.symm
  have hM : w.heap.size ≠ U := by omega
  have HQ : Hid (Q ≤ w.heap.size) := hQ
  have hmm := @run_makeMap Tryz.prog
  clear hR hE h hrow hQ
  go_enter Tryz.func20, Tryz.ntmps20
  go_wp2
  go_step3
  go_wp2
  go_step3
  go_wp2
  go_loopw [1] (fun v wr => ∃ (n j : Nat) (acc : List Lb) (a : Option Addr) (c : Nat), j ≤ s.size ∧ s.size < j + n ∧ acc.length ≤ j ∧ v = .slice a (x0 :: acc).length c ∧ Hid (LbsS w wr U w.heap.size Q s j (.slice a (x0 :: acc).length c) x0 acc) ∧ Hid (labsR s n j acc = R)) (fun _ wr => s.size - curAt wr U)
  case atStart => exact ⟨s.size + 1, i, [], a0, c0, hi, by omega, Nat.zero_le _, rfl, HS0, HR⟩
  case round =>
    clear HS0 HR hmm
    obtain ⟨n, j, acc, a, c, hj, hn, hacc, rfl, HS, HR⟩ := hrel
    have HQM := HQ.out
    have k1 := sk_ge s j
    have k2 := sk_le hj
    have HBl : Hid (∀ i, i ≤ s.size → ∀ W v ac, LbsS w W U w.heap.size Q s i v x0 ac → Calls Tryz.prog 17 #[.pointer (some ⟨U, 0, none⟩)] W fun e w' => (∃ b, e = .returned (.bool b)) ∧ LbsS w w' U w.heap.size Q s (skipP s.data.toList i) v x0 ac) := fun i hi W v ac hW => (blanks_any U s i W hW.cur hi (by omega)).mono (by rintro e w' ⟨he, hc, hk⟩; exact ⟨⟨_, he⟩, hW.move hUQ hM hk hc⟩)
    have HTk : Hid (∀ i, i ≤ s.size → ∀ c : UInt8, ∀ W v ac, LbsS w W U w.heap.size Q s i v x0 ac → Calls Tryz.prog 19 #[.pointer (some ⟨U, 0, none⟩), .int .u8 c.toNat] W fun e w' => e = .returned (.bool (decide (s.data.toList[i]? = some c))) ∧ LbsS w w' U w.heap.size Q s (if s.data.toList[i]? = some c then i + 1 else i) v x0 ac) := fun i hi c W v ac hW => (take_any U s i c W hW.cur hi (by omega)).mono (by rintro e w' ⟨he, hc, hk⟩; exact ⟨he, hW.move hUQ hM hk hc⟩)
    have HLa : Hid (∀ i, i ≤ s.size → ∀ W v ac, LbsS w W U w.heap.size Q s i v x0 ac → Calls Tryz.prog 37 #[.pointer (some ⟨U, 0, none⟩)] W fun e w' => e = labE (labR s i) ∧ LbsS w w' U w.heap.size Q s (labA (labR s i)) v x0 ac) := fun i hi W v ac hW => (label_any B U s i W hW.cur hB (HE.out W hW.kept) hi (by omega)).mono (by rintro e w' ⟨he, hc, hk⟩; exact ⟨he, hW.move hUQ hM hk hc⟩)
    obtain ⟨n', hn'⟩ : ∃ n', n = n' + 1 := ⟨n - 1, by omega⟩
    subst hn'
    have hR := HR.out
    unfold labsR at hR
    have HB1 := HBl.out j hj
    have hlp := labR_place s (skipP s.data.toList j) k2
    have HLa1 := HLa.out _ k2
    have HTk1 := HTk.out _ k2
    clear HR HLa
    generalize skipP s.data.toList j = k at *
    have HB1 : Hid (∀ W v ac, LbsS w W U w.heap.size Q s j v x0 ac → Calls Tryz.prog 17 #[.pointer (some ⟨U, 0, none⟩)] W fun e w' => (∃ b, e = .returned (.bool b)) ∧ LbsS w w' U w.heap.size Q s k v x0 ac) := HB1
    by_cases h125 : s.data.toList[k]? = some 125
    · rw [if_pos h125] at hR
      subst hR
      have HT1 : Hid (∀ W v ac, LbsS w W U w.heap.size Q s k v x0 ac → Calls Tryz.prog 19 #[.pointer (some ⟨U, 0, none⟩), .int .u8 125] W fun e w' => e = .returned (.bool true) ∧ LbsS w w' U w.heap.size Q s (k + 1) v x0 ac) := fun W v ac hW => by
        have := HTk1 125 W v ac hW
        rw [decide_eq_true h125, if_pos h125] at this
        exact this
      clear HBl HTk HTk1 HLa1 hlp h125
      go_wp2_with (first
        | (go_at_call 17; refine (HB1.out _ _ _ HS.out).mono ?_; clear HB1; rintro e W1 ⟨⟨b1, rfl⟩, hl1⟩; have HS1 : Hid (LbsS w W1 U w.heap.size Q s k (.slice a (x0 :: acc).length c) x0 acc) := hl1; clear hl1)
        | (go_at_call 19; refine (HT1.out _ _ _ HS1.out).mono ?_; clear HT1; rintro e W2 ⟨rfl, hl2⟩; have HS2 : Hid (LbsS w W2 U w.heap.size Q s (k + 1) (.slice a (x0 :: acc).length c) x0 acc) := hl2; clear hl2))
      rw [Exit.noGoto_ret]
      go_ret2
      exact ⟨_, rfl, HS2.out.row, HS2.out.cur, HS2.out.kept⟩
    · rw [if_neg h125] at hR
      have HT1 : Hid (∀ W v ac, LbsS w W U w.heap.size Q s k v x0 ac → Calls Tryz.prog 19 #[.pointer (some ⟨U, 0, none⟩), .int .u8 125] W fun e w' => e = .returned (.bool false) ∧ LbsS w w' U w.heap.size Q s k v x0 ac) := fun W v ac hW => by
        have := HTk1 125 W v ac hW
        rw [decide_eq_false h125, if_neg h125] at this
        exact this
      clear HTk1 h125
      cases hlr : labR s k with
      | inl pe =>
        obtain ⟨p, e8⟩ := pe
        obtain ⟨_, _, rfl⟩ := hlp.1 p e8 hlr
        rw [hlr] at hR HLa1
        dsimp only at hR
        subst hR
        have HLb : Hid (∀ W v ac, LbsS w W U w.heap.size Q s k v x0 ac → Calls Tryz.prog 37 #[.pointer (some ⟨U, 0, none⟩)] W fun e w' => e = .returned (.tuple #[.agg #[.string ⟨#[]⟩, .string ⟨#[]⟩], .int .i64 8]) ∧ LbsS w w' U w.heap.size Q s p v x0 ac) := HLa1
        clear HBl HTk HLa1 hlp hlr
        go_wp2_with (first
          | (go_at_call 17; refine (HB1.out _ _ _ HS.out).mono ?_; clear HB1; rintro e W1 ⟨⟨b1, rfl⟩, hl1⟩; have HS1 : Hid (LbsS w W1 U w.heap.size Q s k (.slice a (x0 :: acc).length c) x0 acc) := hl1; clear hl1)
          | (go_at_call 19; refine (HT1.out _ _ _ HS1.out).mono ?_; clear HT1; rintro e W2 ⟨rfl, hl2⟩; have HS2 : Hid (LbsS w W2 U w.heap.size Q s k (.slice a (x0 :: acc).length c) x0 acc) := hl2; clear hl2; have d1 := HS2.out.cur.c1)
          | (go_at_call 37; refine (HLb.out _ _ _ HS2.out).mono ?_; clear HLb; rintro e W3 ⟨rfl, hl3⟩; have HS3 : Hid (∀ o, LbsS w (W3.alloc o) U w.heap.size Q s p (.slice a (x0 :: acc).length c) x0 acc) := fun o => hl3.below ((Below.refl _ _).alloc (Nat.le_refl _) _); clear hl3))
        rw [Exit.noGoto_ret]
        go_ret2
        exact ⟨rfl, (HS3.out _).cur, (HS3.out _).kept⟩
      | inr xp =>
        obtain ⟨x, p⟩ := xp
        obtain ⟨hp1, hp2⟩ := hlp.2 x p hlr
        rw [hlr] at hR HLa1
        dsimp only at hR
        have hxs : x.1.size ≤ maxLen := by unfold maxLen; exact Nat.le_trans (labR_size hlr).1 (by omega)
        obtain ⟨xn, xv⟩ := x
        have HLb : Hid (∀ W v ac, LbsS w W U w.heap.size Q s k v x0 ac → Calls Tryz.prog 37 #[.pointer (some ⟨U, 0, none⟩)] W fun e w' => e = .returned (.tuple #[.agg #[.string xn, .string xv], .int .i64 0]) ∧ LbsS w w' U w.heap.size Q s p v x0 ac) := HLa1
        have hkey : keyOf Tryz.prog 9 (.string xn) = some (.string xn.data.toList) := WideMaps.keyOf_string_mk Tryz.underlying9 hxs
        clear HLa1 hlp hlr hxs
        dsimp only at hR
        have HK : Hid (keyOf Tryz.prog 9 (.string xn) = some (.string xn.data.toList)) := hkey
        clear hkey
        by_cases hh : hasL acc xn = true
        · rw [if_pos hh] at hR
          subst hR
          have hel : plainElem (H := Unit) Tryz.prog 3 (.int .i64 2) = some (.lit (.int .i64 2), []) := plainElem_int Tryz.underlying3 (by decide)
          have HH : Hid (hasL acc xn = true) := hh
          clear hh HBl HTk
          go_wp2_with (first
            | (go_at_call 17; refine (HB1.out _ _ _ HS.out).mono ?_; clear HB1; rintro e W1 ⟨⟨b1, rfl⟩, hl1⟩; have HS1 : Hid (LbsS w W1 U w.heap.size Q s k (.slice a (x0 :: acc).length c) x0 acc) := hl1; clear hl1)
            | (go_at_call 19; refine (HT1.out _ _ _ HS1.out).mono ?_; clear HT1; rintro e W2 ⟨rfl, hl2⟩; have HS2 : Hid (LbsS w W2 U w.heap.size Q s k (.slice a (x0 :: acc).length c) x0 acc) := hl2; clear hl2; have d1 := HS2.out.cur.c1)
            | (go_at_call 37; refine (HLb.out _ _ _ HS2.out).mono ?_; clear HLb; rintro e W3 ⟨rfl, hl3⟩; have HW3' := hl3.met.lt; have HS3 : Hid (LbsS w (W3.alloc (.cells #[.string xn, .string xv] 49 (0, 0))) U w.heap.size Q s p (.slice a (x0 :: acc).length c) x0 acc) := hl3.below ((Below.refl _ _).alloc (Nat.le_refl _) _); have HW3 : Hid (w.heap.size < W3.heap.size) := HW3'; clear hl3 d1; obtain ⟨D, hlk, hnx⟩ := HS3.out.met.look xn; rw [if_pos HH.out] at hlk; have HLK : Hid (LkM (W3.alloc (.cells #[.string xn, .string xv] 49 (0, 0))) w.heap.size xn acc.length D 1) := hlk; have HNX : Hid (∀ (W' : World) (x : Lb), x.1 = xn → hasL acc xn = false → W'.ownsMap Tryz.prog 9 (plainElem Tryz.prog 3) w.heap.size (acc.length + 1) (D.put (.string xn.data.toList) (.lit (.int .i64 1))) → Met W' w.heap.size (acc ++ [x])) := hnx; clear hlk hnx)
            | (at_lookup; refine wpList_lookup_own_int _ rfl _ _ 75 rfl 9 3 .i64 keyedS Tryz.underlying75 Tryz.underlying3 (zeroI _) w.heap.size _ _ rfl HLK.out.1 _ _ rfl HK.out ?_; intro cc hat _; have hcc := lit_int (hat.symm.trans HLK.out.2); subst hcc; clear hat)
            | (at_mapUpdate; refine wpList_mapUpdate_own _ rfl _ _ _ 75 rfl 9 3 keyedS Tryz.underlying75 (plainElem Tryz.prog 3) w.heap.size acc.length D rfl HLK.out.1 (by unfold maxLen; omega) _ _ _ rfl rfl HK.out _ [] hel ?_; intro W4 hown4 hg4; have HL4 := HLK.out.put hown4; clear HLK; have HLK : Hid (LkM W4 w.heap.size xn (acc.length + 1) (D.put (.string xn.data.toList) (.lit (.int .i64 2))) 2) := HL4; have hx40 : W4.cell? ⟨W3.heap.size, 0, none⟩ = some (.string xn) := (by rw [cellOf (grownHeap hg4 (heap_alloc_new W3 _) (fun e => by have := Option.some.inj e; have := HW3.out; omega))]; rfl); have HC4 : Hid (Cur W4 U s p) := grownHeap hg4 HS3.out.cur (fun e => by have := Option.some.inj e; omega); have f41 := HC4.out.f1; have c41 := HC4.out.c1; have HK4 : Hid (Kept (fun k => k = U ∨ Q ≤ k) w W4) := HS3.out.kept.grown hg4 (fun k _ e => Or.inr (by have := Option.some.inj e; omega)); clear hg4 hown4 HNX HL4))
          rw [Exit.noGoto_ret]
          go_ret2
          exact ⟨rfl, HC4.out.set k rfl, HK4.out.setCell (p := ⟨U, 1, none⟩) (fun _ => Or.inl rfl) _⟩
        · rw [if_neg hh] at hR
          have hel : plainElem (H := Unit) Tryz.prog 3 (.int .i64 1) = some (.lit (.int .i64 1), []) := plainElem_int Tryz.underlying3 (by decide)
          have HH : Hid (¬ hasL acc xn = true) := hh
          have HF : Hid (hasL acc xn = false) := (by show hasL acc xn = false; simpa using hh)
          obtain ⟨ac, hac⟩ : ∃ ac, ac = acc ++ [(xn, xv)] := ⟨_, rfl⟩
          have HAC : Hid (ac = acc ++ [(xn, xv)]) := hac
          rw [← hac] at hR
          have hacl : ac.length ≤ j + 1 := by rw [hac, List.length_append, List.length_singleton]; omega
          have q1 := sk_ge s p
          have hq2 := sk_le hp2
          have HB2 := HBl.out p hp2
          generalize skipP s.data.toList p = q at *
          have HB2 : Hid (∀ W v ac, LbsS w W U w.heap.size Q s p v x0 ac → Calls Tryz.prog 17 #[.pointer (some ⟨U, 0, none⟩)] W fun e w' => (∃ b, e = .returned (.bool b)) ∧ LbsS w w' U w.heap.size Q s q v x0 ac) := HB2
          clear hh HBl hac
          by_cases h44 : s.data.toList[q]? = some 44
          · rw [if_pos h44] at hR
            have HR : Hid (labsR s n' (q + 1) ac = R) := hR
            have hq3 := some_lt h44
            have HT2 : Hid (∀ W v ac, LbsS w W U w.heap.size Q s q v x0 ac → Calls Tryz.prog 19 #[.pointer (some ⟨U, 0, none⟩), .int .u8 44] W fun e w' => e = .returned (.bool true) ∧ LbsS w w' U w.heap.size Q s (q + 1) v x0 ac) := fun W v ac hW => by
              have := HTk.out q hq2 44 W v ac hW
              rw [decide_eq_true h44, if_pos h44] at this
              exact this
            clear hR HTk h44
            go_wp2_with (first
              | (go_at_call 17; refine (HB1.out _ _ _ HS.out).mono ?_; clear HB1; rintro e W1 ⟨⟨b1, rfl⟩, hl1⟩; have HS1 : Hid (LbsS w W1 U w.heap.size Q s k (.slice a (x0 :: acc).length c) x0 acc) := hl1; clear hl1)
              | (go_at_call 19; refine (HT1.out _ _ _ HS1.out).mono ?_; clear HT1; rintro e W2 ⟨rfl, hl2⟩; have HS2 : Hid (LbsS w W2 U w.heap.size Q s k (.slice a (x0 :: acc).length c) x0 acc) := hl2; clear hl2; have d1 := HS2.out.cur.c1)
              | (go_at_call 37; refine (HLb.out _ _ _ HS2.out).mono ?_; clear HLb; rintro e W3 ⟨rfl, hl3⟩; have HW3' := hl3.met.lt; have HS3 : Hid (LbsS w (W3.alloc (.cells #[.string xn, .string xv] 49 (0, 0))) U w.heap.size Q s p (.slice a (x0 :: acc).length c) x0 acc) := hl3.below ((Below.refl _ _).alloc (Nat.le_refl _) _); have HW3 : Hid (w.heap.size < W3.heap.size) := HW3'; clear hl3 d1; obtain ⟨D, hlk, hnx⟩ := HS3.out.met.look xn; rw [if_neg HH.out] at hlk; have HLK : Hid (LkM (W3.alloc (.cells #[.string xn, .string xv] 49 (0, 0))) w.heap.size xn acc.length D 0) := hlk; have HNX : Hid (∀ (W' : World) (x : Lb), x.1 = xn → hasL acc xn = false → W'.ownsMap Tryz.prog 9 (plainElem Tryz.prog 3) w.heap.size (acc.length + 1) (D.put (.string xn.data.toList) (.lit (.int .i64 1))) → Met W' w.heap.size (acc ++ [x])) := hnx; clear hlk hnx)
              | (at_lookup; refine wpList_lookup_own_int _ rfl _ _ 75 rfl 9 3 .i64 keyedS Tryz.underlying75 Tryz.underlying3 (zeroI _) w.heap.size _ _ rfl HLK.out.1 _ _ rfl HK.out ?_; intro cc hat _; have hcc := lit_int (hat.symm.trans HLK.out.2); subst hcc; clear hat)
              | (at_mapUpdate; refine wpList_mapUpdate_own _ rfl _ _ _ 75 rfl 9 3 keyedS Tryz.underlying75 (plainElem Tryz.prog 3) w.heap.size acc.length D rfl HLK.out.1 (by unfold maxLen; omega) _ _ _ rfl rfl HK.out _ [] hel ?_; intro W4 hown4 hg4; have HM4 : Hid (Met W4 w.heap.size (acc ++ [(xn, xv)])) := HNX.out W4 (xn, xv) rfl HF.out hown4; have HL4 := HLK.out.put hown4; clear HLK; have HLK : Hid (LkM W4 w.heap.size xn (acc.length + 1) (D.put (.string xn.data.toList) (.lit (.int .i64 1))) 1) := HL4; have hX4 := grownHeap hg4 (heap_alloc_new W3 (.cells #[.string xn, .string xv] 49 (0, 0))) (fun e => (by have := Option.some.inj e; have := HW3.out; omega)); have hx40 : W4.cell? ⟨W3.heap.size, 0, none⟩ = some (.string xn) := (by rw [cellOf hX4]; rfl); have hx41 : W4.cell? ⟨W3.heap.size, 1, none⟩ = some (.string xv) := (by rw [cellOf hX4]; rfl); have HC4 : Hid (Cur W4 U s p) := grownHeap hg4 HS3.out.cur (fun e => by have := Option.some.inj e; omega); have HR4 : Hid (W4.ownsRow Q 49 2 (.slice a (x0 :: acc).length c) (x0 :: acc).length (lbCells (x0 :: acc))) := HS3.out.row.kept hg4 (Or.inr (rowNotMet HS3.out.row HS3.out.met)); have HK4 : Hid (Kept (fun k => k = U ∨ Q ≤ k) w W4) := HS3.out.kept.grown hg4 (fun k _ e => Or.inr (by have := Option.some.inj e; omega)); have hz4 := HM4.out.lt; clear hg4 hown4 HNX HL4 hX4)
              | (at_builtin; refine wpList_append_labs _ rfl _ _ rfl Q (.slice a (x0 :: acc).length c) (x0 :: acc).length (lbCells (x0 :: acc)) rfl (HR4.out.alloc _) _ [(xn, xv)] rfl (LabsAt.lone (heap_alloc_new W4 _)) (by simp; omega) (by simp; omega) ?_; intro v5 W5 hr5 hg5 _; have hr5 : W5.ownsRow Q 49 2 v5 (x0 :: ac).length (lbCells (x0 :: acc) ++ lbCells [(xn, xv)]) := (by have hl : (x0 :: ac).length = (x0 :: acc).length + [(xn, xv)].length := (by rw [HAC.out]; simp); rw [hl]; exact hr5); obtain ⟨a5, c5, rfl⟩ := slice_of_row hr5; have HS5 : Hid (LbsS w W5 U w.heap.size Q s p (.slice a5 (x0 :: ac).length c5) x0 ac) := (by have hac := HAC.out; subst hac; exact LbsS.next HC4.out HR4.out HM4.out HK4.out hUQ hr5 hg5); clear hr5 hg5 hx40 hx41 hz4)
              | (go_at_call 17; refine (HB2.out _ _ _ HS5.out).mono ?_; clear HB2; rintro e W6 ⟨⟨b6, rfl⟩, hl6⟩; have HS6 : Hid (LbsS w W6 U w.heap.size Q s q (.slice a5 (x0 :: ac).length c5) x0 ac) := hl6; clear hl6)
              | (go_at_call 19; refine (HT2.out _ _ _ HS6.out).mono ?_; clear HT2; rintro e W7 ⟨rfl, hl7⟩; have HS7 : Hid (LbsS w W7 U w.heap.size Q s (q + 1) (.slice a5 (x0 :: ac).length c5) x0 ac) := hl7; clear hl7))

            go_roundw
            case rel => exact ⟨n', q + 1, ac, a5, c5, by omega, by omega, by omega, rfl, HS7, HR⟩
            case measure =>
              rw [HS.out.cur.at, HS7.out.cur.at]
              omega
          · rw [if_neg h44] at hR
            have HT2 : Hid (∀ W v ac, LbsS w W U w.heap.size Q s q v x0 ac → Calls Tryz.prog 19 #[.pointer (some ⟨U, 0, none⟩), .int .u8 44] W fun e w' => e = .returned (.bool false) ∧ LbsS w w' U w.heap.size Q s q v x0 ac) := fun W v ac hW => by
              have := HTk.out q hq2 44 W v ac hW
              rw [decide_eq_false h44, if_neg h44] at this
              exact this
            by_cases h125 : s.data.toList[q]? = some 125
            · rw [if_pos h125] at hR
              subst hR
              have HT3 : Hid (∀ W v ac, LbsS w W U w.heap.size Q s q v x0 ac → Calls Tryz.prog 19 #[.pointer (some ⟨U, 0, none⟩), .int .u8 125] W fun e w' => e = .returned (.bool true) ∧ LbsS w w' U w.heap.size Q s (q + 1) v x0 ac) := fun W v ac hW => by
                have := HTk.out q hq2 125 W v ac hW
                rw [decide_eq_true h125, if_pos h125] at this
                exact this
              clear HTk h44 h125
              go_wp2_with (first
                | (go_at_call 17; refine (HB1.out _ _ _ HS.out).mono ?_; clear HB1; rintro e W1 ⟨⟨b1, rfl⟩, hl1⟩; have HS1 : Hid (LbsS w W1 U w.heap.size Q s k (.slice a (x0 :: acc).length c) x0 acc) := hl1; clear hl1)
                | (go_at_call 19; refine (HT1.out _ _ _ HS1.out).mono ?_; clear HT1; rintro e W2 ⟨rfl, hl2⟩; have HS2 : Hid (LbsS w W2 U w.heap.size Q s k (.slice a (x0 :: acc).length c) x0 acc) := hl2; clear hl2; have d1 := HS2.out.cur.c1)
                | (go_at_call 37; refine (HLb.out _ _ _ HS2.out).mono ?_; clear HLb; rintro e W3 ⟨rfl, hl3⟩; have HW3' := hl3.met.lt; have HS3 : Hid (LbsS w (W3.alloc (.cells #[.string xn, .string xv] 49 (0, 0))) U w.heap.size Q s p (.slice a (x0 :: acc).length c) x0 acc) := hl3.below ((Below.refl _ _).alloc (Nat.le_refl _) _); have HW3 : Hid (w.heap.size < W3.heap.size) := HW3'; clear hl3 d1; obtain ⟨D, hlk, hnx⟩ := HS3.out.met.look xn; rw [if_neg HH.out] at hlk; have HLK : Hid (LkM (W3.alloc (.cells #[.string xn, .string xv] 49 (0, 0))) w.heap.size xn acc.length D 0) := hlk; have HNX : Hid (∀ (W' : World) (x : Lb), x.1 = xn → hasL acc xn = false → W'.ownsMap Tryz.prog 9 (plainElem Tryz.prog 3) w.heap.size (acc.length + 1) (D.put (.string xn.data.toList) (.lit (.int .i64 1))) → Met W' w.heap.size (acc ++ [x])) := hnx; clear hlk hnx)
                | (at_lookup; refine wpList_lookup_own_int _ rfl _ _ 75 rfl 9 3 .i64 keyedS Tryz.underlying75 Tryz.underlying3 (zeroI _) w.heap.size _ _ rfl HLK.out.1 _ _ rfl HK.out ?_; intro cc hat _; have hcc := lit_int (hat.symm.trans HLK.out.2); subst hcc; clear hat)
                | (at_mapUpdate; refine wpList_mapUpdate_own _ rfl _ _ _ 75 rfl 9 3 keyedS Tryz.underlying75 (plainElem Tryz.prog 3) w.heap.size acc.length D rfl HLK.out.1 (by unfold maxLen; omega) _ _ _ rfl rfl HK.out _ [] hel ?_; intro W4 hown4 hg4; have HM4 : Hid (Met W4 w.heap.size (acc ++ [(xn, xv)])) := HNX.out W4 (xn, xv) rfl HF.out hown4; have HL4 := HLK.out.put hown4; clear HLK; have HLK : Hid (LkM W4 w.heap.size xn (acc.length + 1) (D.put (.string xn.data.toList) (.lit (.int .i64 1))) 1) := HL4; have hX4 := grownHeap hg4 (heap_alloc_new W3 (.cells #[.string xn, .string xv] 49 (0, 0))) (fun e => (by have := Option.some.inj e; have := HW3.out; omega)); have hx40 : W4.cell? ⟨W3.heap.size, 0, none⟩ = some (.string xn) := (by rw [cellOf hX4]; rfl); have hx41 : W4.cell? ⟨W3.heap.size, 1, none⟩ = some (.string xv) := (by rw [cellOf hX4]; rfl); have HC4 : Hid (Cur W4 U s p) := grownHeap hg4 HS3.out.cur (fun e => by have := Option.some.inj e; omega); have HR4 : Hid (W4.ownsRow Q 49 2 (.slice a (x0 :: acc).length c) (x0 :: acc).length (lbCells (x0 :: acc))) := HS3.out.row.kept hg4 (Or.inr (rowNotMet HS3.out.row HS3.out.met)); have HK4 : Hid (Kept (fun k => k = U ∨ Q ≤ k) w W4) := HS3.out.kept.grown hg4 (fun k _ e => Or.inr (by have := Option.some.inj e; omega)); have hz4 := HM4.out.lt; clear hg4 hown4 HNX HL4 hX4)
                | (at_builtin; refine wpList_append_labs _ rfl _ _ rfl Q (.slice a (x0 :: acc).length c) (x0 :: acc).length (lbCells (x0 :: acc)) rfl (HR4.out.alloc _) _ [(xn, xv)] rfl (LabsAt.lone (heap_alloc_new W4 _)) (by simp; omega) (by simp; omega) ?_; intro v5 W5 hr5 hg5 _; have hr5 : W5.ownsRow Q 49 2 v5 (x0 :: ac).length (lbCells (x0 :: acc) ++ lbCells [(xn, xv)]) := (by have hl : (x0 :: ac).length = (x0 :: acc).length + [(xn, xv)].length := (by rw [HAC.out]; simp); rw [hl]; exact hr5); obtain ⟨a5, c5, rfl⟩ := slice_of_row hr5; have HS5 : Hid (LbsS w W5 U w.heap.size Q s p (.slice a5 (x0 :: ac).length c5) x0 ac) := (by have hac := HAC.out; subst hac; exact LbsS.next HC4.out HR4.out HM4.out HK4.out hUQ hr5 hg5); clear hr5 hg5 hx40 hx41 hz4)
                | (go_at_call 17; refine (HB2.out _ _ _ HS5.out).mono ?_; clear HB2; rintro e W6 ⟨⟨b6, rfl⟩, hl6⟩; have HS6 : Hid (LbsS w W6 U w.heap.size Q s q (.slice a5 (x0 :: ac).length c5) x0 ac) := hl6; clear hl6)
                | (go_at_call 19; refine (HT2.out _ _ _ HS6.out).mono ?_; clear HT2; rintro e W7 ⟨rfl, hl7⟩; have HS7 : Hid (LbsS w W7 U w.heap.size Q s q (.slice a5 (x0 :: ac).length c5) x0 ac) := hl7; clear hl7)
                | (go_at_call 19; refine (HT3.out _ _ _ HS7.out).mono ?_; clear HT3; rintro e W8 ⟨rfl, hl8⟩; have HS8 : Hid (LbsS w W8 U w.heap.size Q s (q + 1) (.slice a5 (x0 :: ac).length c5) x0 ac) := hl8; clear hl8))

              rw [Exit.noGoto_ret]
              go_ret2
              exact ⟨_, rfl, HS8.out.row, HS8.out.cur, HS8.out.kept⟩
            · rw [if_neg h125] at hR
              subst hR
              have HT3 : Hid (∀ W v ac, LbsS w W U w.heap.size Q s q v x0 ac → Calls Tryz.prog 19 #[.pointer (some ⟨U, 0, none⟩), .int .u8 125] W fun e w' => e = .returned (.bool false) ∧ LbsS w w' U w.heap.size Q s q v x0 ac) := fun W v ac hW => by
                have := HTk.out q hq2 125 W v ac hW
                rw [decide_eq_false h125, if_neg h125] at this
                exact this
              clear HTk h44 h125
              go_wp2_with (first
                | (go_at_call 17; refine (HB1.out _ _ _ HS.out).mono ?_; clear HB1; rintro e W1 ⟨⟨b1, rfl⟩, hl1⟩; have HS1 : Hid (LbsS w W1 U w.heap.size Q s k (.slice a (x0 :: acc).length c) x0 acc) := hl1; clear hl1)
                | (go_at_call 19; refine (HT1.out _ _ _ HS1.out).mono ?_; clear HT1; rintro e W2 ⟨rfl, hl2⟩; have HS2 : Hid (LbsS w W2 U w.heap.size Q s k (.slice a (x0 :: acc).length c) x0 acc) := hl2; clear hl2; have d1 := HS2.out.cur.c1)
                | (go_at_call 37; refine (HLb.out _ _ _ HS2.out).mono ?_; clear HLb; rintro e W3 ⟨rfl, hl3⟩; have HW3' := hl3.met.lt; have HS3 : Hid (LbsS w (W3.alloc (.cells #[.string xn, .string xv] 49 (0, 0))) U w.heap.size Q s p (.slice a (x0 :: acc).length c) x0 acc) := hl3.below ((Below.refl _ _).alloc (Nat.le_refl _) _); have HW3 : Hid (w.heap.size < W3.heap.size) := HW3'; clear hl3 d1; obtain ⟨D, hlk, hnx⟩ := HS3.out.met.look xn; rw [if_neg HH.out] at hlk; have HLK : Hid (LkM (W3.alloc (.cells #[.string xn, .string xv] 49 (0, 0))) w.heap.size xn acc.length D 0) := hlk; have HNX : Hid (∀ (W' : World) (x : Lb), x.1 = xn → hasL acc xn = false → W'.ownsMap Tryz.prog 9 (plainElem Tryz.prog 3) w.heap.size (acc.length + 1) (D.put (.string xn.data.toList) (.lit (.int .i64 1))) → Met W' w.heap.size (acc ++ [x])) := hnx; clear hlk hnx)
                | (at_lookup; refine wpList_lookup_own_int _ rfl _ _ 75 rfl 9 3 .i64 keyedS Tryz.underlying75 Tryz.underlying3 (zeroI _) w.heap.size _ _ rfl HLK.out.1 _ _ rfl HK.out ?_; intro cc hat _; have hcc := lit_int (hat.symm.trans HLK.out.2); subst hcc; clear hat)
                | (at_mapUpdate; refine wpList_mapUpdate_own _ rfl _ _ _ 75 rfl 9 3 keyedS Tryz.underlying75 (plainElem Tryz.prog 3) w.heap.size acc.length D rfl HLK.out.1 (by unfold maxLen; omega) _ _ _ rfl rfl HK.out _ [] hel ?_; intro W4 hown4 hg4; have HM4 : Hid (Met W4 w.heap.size (acc ++ [(xn, xv)])) := HNX.out W4 (xn, xv) rfl HF.out hown4; have HL4 := HLK.out.put hown4; clear HLK; have HLK : Hid (LkM W4 w.heap.size xn (acc.length + 1) (D.put (.string xn.data.toList) (.lit (.int .i64 1))) 1) := HL4; have hX4 := grownHeap hg4 (heap_alloc_new W3 (.cells #[.string xn, .string xv] 49 (0, 0))) (fun e => (by have := Option.some.inj e; have := HW3.out; omega)); have hx40 : W4.cell? ⟨W3.heap.size, 0, none⟩ = some (.string xn) := (by rw [cellOf hX4]; rfl); have hx41 : W4.cell? ⟨W3.heap.size, 1, none⟩ = some (.string xv) := (by rw [cellOf hX4]; rfl); have HC4 : Hid (Cur W4 U s p) := grownHeap hg4 HS3.out.cur (fun e => by have := Option.some.inj e; omega); have HR4 : Hid (W4.ownsRow Q 49 2 (.slice a (x0 :: acc).length c) (x0 :: acc).length (lbCells (x0 :: acc))) := HS3.out.row.kept hg4 (Or.inr (rowNotMet HS3.out.row HS3.out.met)); have HK4 : Hid (Kept (fun k => k = U ∨ Q ≤ k) w W4) := HS3.out.kept.grown hg4 (fun k _ e => Or.inr (by have := Option.some.inj e; omega)); have hz4 := HM4.out.lt; clear hg4 hown4 HNX HL4 hX4)
                | (at_builtin; refine wpList_append_labs _ rfl _ _ rfl Q (.slice a (x0 :: acc).length c) (x0 :: acc).length (lbCells (x0 :: acc)) rfl (HR4.out.alloc _) _ [(xn, xv)] rfl (LabsAt.lone (heap_alloc_new W4 _)) (by simp; omega) (by simp; omega) ?_; intro v5 W5 hr5 hg5 _; have hr5 : W5.ownsRow Q 49 2 v5 (x0 :: ac).length (lbCells (x0 :: acc) ++ lbCells [(xn, xv)]) := (by have hl : (x0 :: ac).length = (x0 :: acc).length + [(xn, xv)].length := (by rw [HAC.out]; simp); rw [hl]; exact hr5); obtain ⟨a5, c5, rfl⟩ := slice_of_row hr5; have HS5 : Hid (LbsS w W5 U w.heap.size Q s p (.slice a5 (x0 :: ac).length c5) x0 ac) := (by have hac := HAC.out; subst hac; exact LbsS.next HC4.out HR4.out HM4.out HK4.out hUQ hr5 hg5); clear hr5 hg5 hx40 hx41 hz4)
                | (go_at_call 17; refine (HB2.out _ _ _ HS5.out).mono ?_; clear HB2; rintro e W6 ⟨⟨b6, rfl⟩, hl6⟩; have HS6 : Hid (LbsS w W6 U w.heap.size Q s q (.slice a5 (x0 :: ac).length c5) x0 ac) := hl6; clear hl6)
                | (go_at_call 19; refine (HT2.out _ _ _ HS6.out).mono ?_; clear HT2; rintro e W7 ⟨rfl, hl7⟩; have HS7 : Hid (LbsS w W7 U w.heap.size Q s q (.slice a5 (x0 :: ac).length c5) x0 ac) := hl7; clear hl7)
                | (go_at_call 19; refine (HT3.out _ _ _ HS7.out).mono ?_; clear HT3; rintro e W8 ⟨rfl, hl8⟩; have HS8 : Hid (LbsS w W8 U w.heap.size Q s q (.slice a5 (x0 :: ac).length c5) x0 ac) := hl8; clear hl8))

              rw [Exit.noGoto_ret]
              go_ret2
              exact ⟨rfl, HS8.out.cur, HS8.out.kept⟩
end Go.Proofs.YtfckdleahljdeaaGreatDoor
