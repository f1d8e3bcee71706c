/- The document's labels: pure. -/
import Derived.Test.YtfckdleahljdeaaGreatDoorMFz5
import Derived.Test.YtfckdleahljdeaaGreatDoorMFy3
import Derived.StillTailTactics
import Derived.Deep.CutRange
namespace Go.Proofs.YtfckdleahljdeaaGreatDoor
open Go.RowKit Go.Maps

/-- A label by its parts. -/
theorem labR_val (s : ByteArray) (i : Nat) : labR s i =
    if wordP false s.data.toList i = i then .inl (i, 8)
    else if s.data.toList[skipP s.data.toList (wordP false s.data.toList i)]? ≠ some 61 then .inl (skipP s.data.toList (wordP false s.data.toList i), 8)
    else match valR s (skipP s.data.toList (skipP s.data.toList (wordP false s.data.toList i) + 1)) with
      | .inl z => .inl (z, 8)
      | .inr (v, z) => if Lib.validD v = true then .inr ((s.extract i (wordP false s.data.toList i), ⟨v.toArray⟩), z) else .inl (skipP s.data.toList (skipP s.data.toList (wordP false s.data.toList i) + 1), 8) := by
  unfold labR valR
  generalize wordP false s.data.toList i = j
  by_cases h1 : j = i
  · rw [if_pos h1, if_pos h1]
  · rw [if_neg h1, if_neg h1]
    by_cases h2 : s.data.toList[skipP s.data.toList j]? ≠ some 61
    · rw [if_pos h2, if_pos h2]
    · rw [if_neg h2, if_neg h2]
      generalize skipP s.data.toList (skipP s.data.toList j + 1) = m
      by_cases h3 : s.data.toList[m]? = some 34
      · rw [if_neg (by simpa using h3), if_pos h3]
        generalize quotP (s.data.toList.drop (m + 1)) (m + 1) [] = R
        rcases R with z | ⟨v, z⟩ <;> rfl
      · rw [if_pos (by simpa using h3), if_neg h3]

theorem goOn {S G : World → Prop} {W : World} (h : S W) (k : ∀ W1, S W1 → G W1) : G W := k W h
/-- While labels are gone through: the line, the rows of names and values. -/
structure NsS (w : World) (X : Nat) (s : ByteArray) (W : World) (p : Nat) (b : Bool) (q : Nat) (e : Int) (a1 a2 : Option Addr) (c1 c2 : Nat) (acc : List Lb) : Prop where
  ln : LnAt W X s p b q e (.slice a1 acc.length c1) (.slice a2 acc.length c2)
  nms : W.ownsRow w.heap.size 9 1 (.slice a1 acc.length c1) acc.length (txCells (acc.map Prod.fst))
  vls : W.ownsRow w.heap.size 9 1 (.slice a2 acc.length c2) acc.length (txCells (acc.map Prod.snd))
  apart : ∀ k, (Value.slice a1 acc.length c1).ownBlock = some k → (Value.slice a2 acc.length c2).ownBlock ≠ some k
  kept : Kept (fun k => k = X) w W
theorem NsS.step {w W W' : World} {X : Nat} {s : ByteArray} {p p' q q' : Nat} {b b' : Bool} {e e' : Int} {a1 a2 : Option Addr} {c1 c2 : Nat} {acc : List Lb} (h : NsS w X s W p b q e a1 a2 c1 c2 acc) (hX : X < w.heap.size) (hk : Kept (fun k => k = X) W W') (hl : LnAt W' X s p' b' q' e' (.slice a1 acc.length c1) (.slice a2 acc.length c2)) : NsS w X s W' p' b' q' e' a1 a2 c1 c2 acc :=
  ⟨hl, hk.ownsRow h.nms (fun k hk1 e => by have := row_lo h.nms k hk1; omega), hk.ownsRow h.vls (fun k hk1 e => by have := row_lo h.vls k hk1; omega), h.apart, h.kept.two hk⟩

theorem NsS.mv {w W : World} {X : Nat} {s : ByteArray} {p q : Nat} {b : Bool} {e : Int} {a1 a2 : Option Addr} {c1 c2 : Nat} {acc : List Lb} (h : NsS w X s W p b q e a1 a2 c1 c2 acc) (hX : X < w.heap.size) (n p' m : Nat) : NsS w X s (((W.drewN n).setCell ⟨X, 1, none⟩ (.int .i64 p')).drewN m) p' b q e a1 a2 c1 c2 acc :=
  h.step hX ((((Kept.refl _ W).drewN n).two (keptX _ X 1 _)).two ((Kept.refl _ _).drewN m)) (((h.ln.drewN n).set1 p' rfl).drewN m)
theorem NsS.mv1 {w W : World} {X : Nat} {s : ByteArray} {p q : Nat} {b : Bool} {e : Int} {a1 a2 : Option Addr} {c1 c2 : Nat} {acc : List Lb} (h : NsS w X s W p b q e a1 a2 c1 c2 acc) (hX : X < w.heap.size) (p' : Nat) : NsS w X s (W.drew.setCell ⟨X, 1, none⟩ (.int .i64 p')) p' b q e a1 a2 c1 c2 acc := h.mv hX 1 p' 0
/-- Names pushed, values not yet. -/
structure NsM (w : World) (X : Nat) (s : ByteArray) (W : World) (p : Nat) (b : Bool) (q : Nat) (e : Int) (a1 a2 : Option Addr) (c1 c2 : Nat) (acc : List Lb) (n1 : ByteArray) : Prop where
  ln : LnAt W X s p b q e (.slice a1 (acc.length + 1) c1) (.slice a2 acc.length c2)
  nms : W.ownsRow w.heap.size 9 1 (.slice a1 (acc.length + 1) c1) (acc.length + 1) (txCells (acc.map Prod.fst ++ [n1]))
  vls : W.ownsRow w.heap.size 9 1 (.slice a2 acc.length c2) acc.length (txCells (acc.map Prod.snd))
  apart : ∀ k, (Value.slice a1 (acc.length + 1) c1).ownBlock = some k → (Value.slice a2 acc.length c2).ownBlock ≠ some k
  kept : Kept (fun k => k = X) w W
theorem NsS.push {w W w1 : World} {X : Nat} {s : ByteArray} {p q : Nat} {b : Bool} {e : Int} {a1 a2 b1 : Option Addr} {c1 c2 d1 : Nat} {acc : List Lb} {n1 : ByteArray} {o : Obj} (h : NsS w X s W p b q e a1 a2 c1 c2 acc) (hX : X < w.heap.size)
    (hr : w1.ownsRow w.heap.size 9 1 (.slice b1 (acc.length + 1) d1) (acc.length + 1) (txCells (acc.map Prod.fst) ++ [.string n1])) (hg : (W.alloc o).grownBy w1 (Value.slice a1 acc.length c1).ownBlock)
    (hl : (Value.slice b1 (acc.length + 1) d1).ownBlock = (Value.slice a1 acc.length c1).ownBlock ∨ (Value.slice b1 (acc.length + 1) d1).ownBlock = some (W.alloc o).heap.size) :
    NsM w X s (w1.setCell ⟨X, 5, none⟩ (.slice b1 (acc.length + 1) d1)) p b q e b1 a2 d1 c2 acc n1 := by
  have hsz := h.kept.size
  have hb : Below w.heap.size W w1 := ((Below.refl w.heap.size W).alloc hsz o).grown hg (by simp; omega) (fun k hk => (h.nms.lt k hk).1)
  have hv : w1.ownsRow w.heap.size 9 1 (.slice a2 acc.length c2) acc.length (txCells (acc.map Prod.snd)) := (h.vls.alloc o).kept hg (by
    cases hvb : (Value.slice a2 acc.length c2).ownBlock with
    | none => exact .inl rfl
    | some k' => exact .inr (fun e => h.apart k' e.symm hvb))
  have hk := keptX w1 X 5 (.slice b1 (acc.length + 1) d1)
  refine ⟨(h.ln.below hb hX).set5 _, ?_, hk.ownsRow hv (fun k hk1 e => by have := row_lo hv k hk1; omega), ?_, (h.kept.belowB hb (Nat.le_refl _)).two hk⟩
  · have hr2 := hk.ownsRow hr (fun k hk1 e => by have := row_lo hr k hk1; omega)
    rw [txCells_append]
    exact hr2
  · intro k hk1 hk2
    rcases hl with hl | hl
    · exact h.apart k (hl.symm.trans hk1) hk2
    · have h9 := (h.vls.lt k hk2).2
      rw [hl] at hk1
      have := Option.some.inj hk1
      simp at this
      omega
theorem NsM.push {w W w1 : World} {X : Nat} {s : ByteArray} {p q : Nat} {b : Bool} {e : Int} {a1 a2 b2 : Option Addr} {c1 c2 d2 : Nat} {acc : List Lb} {n1 v1 : ByteArray} {o : Obj} (h : NsM w X s W p b q e a1 a2 c1 c2 acc n1) (hX : X < w.heap.size)
    (hr : w1.ownsRow w.heap.size 9 1 (.slice b2 (acc.length + 1) d2) (acc.length + 1) (txCells (acc.map Prod.snd) ++ [.string v1])) (hg : (W.alloc o).grownBy w1 (Value.slice a2 acc.length c2).ownBlock)
    (hl : (Value.slice b2 (acc.length + 1) d2).ownBlock = (Value.slice a2 acc.length c2).ownBlock ∨ (Value.slice b2 (acc.length + 1) d2).ownBlock = some (W.alloc o).heap.size) :
    NsS w X s (w1.setCell ⟨X, 6, none⟩ (.slice b2 (acc.length + 1) d2)) p b q e a1 b2 c1 d2 (acc ++ [(n1, v1)]) := by
  have hsz := h.kept.size
  have hln : (acc ++ [(n1, v1)]).length = acc.length + 1 := by simp
  have hb : Below w.heap.size W w1 := ((Below.refl w.heap.size W).alloc hsz o).grown hg (by simp; omega) (fun k hk => (h.vls.lt k hk).1)
  have hv : w1.ownsRow w.heap.size 9 1 (.slice a1 (acc.length + 1) c1) (acc.length + 1) (txCells (acc.map Prod.fst ++ [n1])) := (h.nms.alloc o).kept hg (by
    cases hvb : (Value.slice a1 (acc.length + 1) c1).ownBlock with
    | none => exact .inl rfl
    | some k' => exact .inr (fun e => h.apart k' hvb e.symm))
  have hk := keptX w1 X 6 (.slice b2 (acc.length + 1) d2)
  refine ⟨?_, ?_, ?_, ?_, (h.kept.belowB hb (Nat.le_refl _)).two hk⟩
  · rw [hln]
    exact (h.ln.below hb hX).set6 _
  · rw [hln, List.map_append]
    exact hk.ownsRow hv (fun k hk1 e => by have := row_lo hv k hk1; omega)
  · rw [hln, List.map_append, txCells_append]
    exact hk.ownsRow hr (fun k hk1 e => by have := row_lo hr k hk1; omega)
  · rw [hln]
    intro k hk1 hk2
    rcases hl with hl | hl
    · exact h.apart k hk1 (hl.symm.trans hk2)
    · have h9 := (h.nms.lt k hk1).2
      rw [hl] at hk2
      have := Option.some.inj hk2
      simp at this
      omega
theorem NsS.mid {w W w1 : World} {X : Nat} {s : ByteArray} {p q : Nat} {b : Bool} {e : Int} {a1 a2 : Option Addr} {c1 c2 : Nat} {acc : List Lb} {o : Obj} (h : NsS w X s W p b q e a1 a2 c1 c2 acc) (hX : X < w.heap.size) (hg : (W.alloc o).grownBy w1 (Value.slice a1 acc.length c1).ownBlock) : LnX w1 X s p b q e (.slice a1 acc.length c1) (.slice a2 acc.length c2) :=
  (h.ln.below (((Below.refl w.heap.size W).alloc h.kept.size o).grown hg (by have := h.kept.size; simp; omega) (fun k hk => (h.nms.lt k hk).1)) hX).x
theorem NsM.mid {w W w1 : World} {X : Nat} {s : ByteArray} {p q : Nat} {b : Bool} {e : Int} {a1 a2 : Option Addr} {c1 c2 : Nat} {acc : List Lb} {n1 : ByteArray} {o : Obj} (h : NsM w X s W p b q e a1 a2 c1 c2 acc n1) (hX : X < w.heap.size) (hg : (W.alloc o).grownBy w1 (Value.slice a2 acc.length c2).ownBlock) : LnX w1 X s p b q e (.slice a1 (acc.length + 1) c1) (.slice a2 acc.length c2) :=
  (h.ln.below (((Below.refl w.heap.size W).alloc h.kept.size o).grown hg (by have := h.kept.size; simp; omega) (fun k hk => (h.vls.lt k hk).1)) hX).x
theorem hasL_take (acc : List Lb) (n : ByteArray) (i : Nat) (h : i < acc.length) : hasL (acc.take (i + 1)) n = (hasL (acc.take i) n || acc[i].1.toList == n.toList) := by
  unfold hasL
  rw [List.take_succ_eq_append_getElem h, List.any_append]
  simp
theorem row_txt {W : World} {base : Nat} {a : Option Addr} {n c : Nat} {l : List ByteArray} (h : W.ownsRow base 9 1 (.slice a n c) n (txCells l)) (hl : l.length = n) (k : Nat) (hk : k < n) : ∃ g, a = some ⟨g, 0, none⟩ ∧ W.cell? ⟨g, k, none⟩ = some (.string l[k]) := by
  rcases h.2 with ⟨e, h0⟩ | ⟨g, cap, cur, e, hg, hcur, hc1, hc2, _⟩
  · omega
  · cases e
    refine ⟨g, rfl, ?_⟩
    have := h.cells (g := g) rfl k (.string l[k]) (by simp [txCells, hl ▸ hk])
    rw [Addr.add_lit] at this
    simpa using this
/-- What labels come to. -/
def LbQ (w : World) (X : Nat) (s : ByteArray) (q : Nat) (e : Int) (R : (Nat × Int) ⊕ (List Lb × Nat)) (w' : World) : Prop := match R with
  | .inl (z, er) => ∃ j nm vl, LnAt w' X s j true z er nm vl
  | .inr (ls, z) => ∃ a1 a2 c1 c2, NsS w X s w' z false q e a1 a2 c1 c2 ls

set_option maxRecDepth 100000 in
set_option maxHeartbeats 4000000 in
theorem refLabels_any (X : Nat) (s : ByteArray) (i q : Nat) (e : Int) (w : World) (h : LnAt w X s i false q e (.slice none 0 0) (.slice none 0 0)) (hi : i < s.size) (hs : s.size ≤ 4000) (h10 : ∀ k (hk : k < s.size), s[k] ≠ 10) : Calls Tryz.prog 27 #[.pointer (some ⟨X, 0, none⟩)] w fun en w' => (∃ v, en = .returned v) ∧ Kept (fun k => k = X) w w' ∧ LbQ w X s q e (labsR s (s.size + 1) (i + 1) []) w' := by
  have hX : X < w.heap.size := h.lt
  obtain ⟨R, hR⟩ : ∃ R, R = labsR s (s.size + 1) (i + 1) [] := ⟨_, rfl⟩
  rw [← hR]
  have HR : Hid (labsR s (s.size + 1) (i + 1) [] = R) := hR.symm
  have HS0 : Hid (∀ v, v = Value.int .i64 ((i + 1 : Nat) : Int) → NsS w X s (w.setCell ⟨X, 1, none⟩ v) (i + 1) false q e none none 0 0 []) := fun v hv => ⟨h.set1 (i + 1) hv, World.ownsRow_nil _ _ _ _, World.ownsRow_nil _ _ _ _, (fun k hk => by cases hk), keptX w X 1 v⟩
  obtain ⟨c0, c1, c2, c3, c4, c5, c6, f1, f2, f3, f4, f5, f6⟩ := h.x
  have HX : Hid (X < w.heap.size) := hX
  have H10 : Hid (∀ k (hk : k < s.size), s[k] ≠ 10) := h10
  clear hR h h10 hX
  go_enter Tryz.func27, Tryz.ntmps27
  go_wp2
  go_loopw [] (fun wr => (∃ (n j : Nat) (acc : List Lb) (a1 a2 : Option Addr) (c1 c2 : Nat), j ≤ s.size ∧ s.size < j + n ∧ acc.length ≤ j ∧ Hid (NsS w X s wr j false q e a1 a2 c1 c2 acc) ∧ Hid (labsR s n j acc = R)) ∨ (∃ (j z : Nat) (er : Int) (nm vl : Value), Hid (R = .inl (z, er)) ∧ Hid (LnAt wr X s j true z er nm vl) ∧ Hid (Kept (fun k => k = X) w wr))) (fun wr => vM X s wr)
  case atStart => exact .inl ⟨s.size + 1, i + 1, [], none, none, 0, 0, by omega, by omega, Nat.zero_le _, HS0.out _ (by go_num), HR⟩
  case round =>
    clear HS0 HR c0 c1 c2 c3 c4 c5 c6 f1 f2 f3 f4 f5 f6
    rcases hrel with ⟨n, j, acc, a1, a2, c1', c2', hj, hn, hacc, HS, HR⟩ | ⟨j, z, er, nm, vl, HR, HL, HK⟩
    · obtain ⟨c0, c1, c2, c3, c4, c5, c6, f1, f2, f3, f4, f5, f6⟩ := HS.out.ln.x
      have HSK : Hid (∀ W, Calls Tryz.prog 25 #[.string s, .int .i64 j] W fun e w' => e = .returned (.int .i64 (skipP s.data.toList j : Nat)) ∧ w' = W) := fun W => refSkip_any s j W hj (by omega)
      have k1 := sk_ge s j
      have k2 := sk_le hj
      obtain ⟨k, hk⟩ : ∃ k, k = skipP s.data.toList j := ⟨_, rfl⟩
      rw [← hk] at HSK k1 k2
      have HKE : Hid (k = skipP s.data.toList j) := hk
      clear hk
      go_wp2
      refine wp_region_still_tail 12 (by kernel_rfl) (by kernel_rfl) ?_
      simp only [List.take_succ_cons, List.take_zero, List.drop_succ_cons, List.drop_zero]
      iterate 9 still_step
      still_call (HSK.out _)
      iterate 2 still_step
      refine wpStill_nil ?_
      go_wp2_with fail
      refine goOn (S := fun W => NsS w X s W k false q e a1 a2 c1' c2' acc) (HS.out.step HX.out (((Kept.refl _ wr).drewN 1).two (keptX _ X 1 _)) ((HS.out.ln.drewN 1).set1 k rfl)) ?_
      obtain ⟨M, hM⟩ : ∃ M, M = vM X s wr := ⟨_, rfl⟩
      have HM : Hid (vM X s wr = s.size + 1 - j) := vM_run HS.out.ln
      clear HS HSK c0 c1 c2 c3 c4 c5 c6 f1 f2 f3 f4 f5 f6
      rintro WA hA
      have HS : Hid (NsS w X s WA k false q e a1 a2 c1' c2' acc) := hA
      clear hA
      obtain ⟨c0, c1, c2, c3, c4, c5, c6, f1, f2, f3, f4, f5, f6⟩ := HS.out.ln.x
      obtain ⟨n', hn'⟩ : ∃ n', n = n' + 1 := ⟨n - 1, by omega⟩
      subst hn'
      have hR := HR.out
      unfold labsR at hR
      rw [← HKE.out] at hR
      have HN : Hid (∀ W j, LnAt W X s j false q e (.slice a1 acc.length c1') (.slice a2 acc.length c2') → Calls Tryz.prog 43 #[.pointer (some ⟨X, 0, none⟩), .int .i64 j, .int .i64 8] W fun en w' => (∃ v, en = .returned v) ∧ LnAt w' X s j true j 8 (.slice a1 acc.length c1') (.slice a2 acc.length c2') ∧ Kept (fun k => k = X) W w') := fun W j hW => refNo_any X s j q e 8 _ _ j W hW
      by_cases h125 : s.data.toList[k]? = some 125
      · have hkl := some_lt h125
        have hby := byteAt s k hkl
        have hat : s.data.toList[k]? = some s[k] := by rw [List.getElem?_eq_getElem (by simpa using hkl), hby]
        have hbl : s[k].toNat < 256 := s[k].toNat_lt
        rw [if_pos h125] at hR
        have HRE : Hid (R = .inr (acc, k + 1)) := hR.symm
        have m125 : (s[k].toNat : Int) = 125 := by rw [Option.some.inj (hat.symm.trans h125)]; rfl
        clear hR HR hat hby h125 HN
        go_quiet (fail)
        go_wp2
        refine bodyPost_ret (results_none rfl _ _ _) rfl ?_
        have hl : ∀ n v, v = Value.int .i64 ((k + 1 : Nat) : Int) → NsS w X s ((WA.drewN n).setCell ⟨X, 1, none⟩ v) (k + 1) false q e a1 a2 c1' c2' acc := fun n v hv => HS.out.step HX.out (((Kept.refl _ WA).drewN n).two (keptX _ X 1 v)) ((HS.out.ln.drewN n).set1 (k + 1) hv)
        rw [HRE.out]
        exact ⟨⟨_, rfl⟩, (hl _ _ (by go_num)).kept, _, _, _, _, hl _ _ (by go_num)⟩
      · rw [if_neg h125] at hR
        have HLw : Hid (∀ n, LnAt ((WA.drewN n).setCell ⟨X, 1, none⟩ (.int .i64 k)) X s k false q e (.slice a1 acc.length c1') (.slice a2 acc.length c2')) := fun n => (HS.out.ln.drewN n).set1 k rfl
        have HKw : Hid (∀ n (m : Nat), Kept (fun k => k = X) w ((WA.drewN n).setCell ⟨X, 1, none⟩ (.int .i64 m))) := fun n m => HS.out.kept.two (((Kept.refl _ WA).drewN n).two (keptX _ X 1 _))
        by_cases hw : wordP false s.data.toList k = k
        · rw [labR_val, if_pos hw] at hR
          have HRE : Hid (R = .inl (k, 8)) := hR.symm
          have HWD : Hid (∀ W, Calls Tryz.prog 26 #[.string s, .int .i64 k, .bool false] W fun e w' => e = .returned (.int .i64 k) ∧ w' = W) := fun W => by
            have h9 := refWordP_any s k false W k2 (by omega)
            rw [hw] at h9
            exact h9
          clear hR HR hw
          have hfin : ∀ w', Kept (fun k => k = X) w w' → LnAt w' X s k true k 8 (.slice a1 acc.length c1') (.slice a2 acc.length c2') → Kept (fun k => k = X) w w' ∧ LbQ w X s q e R w' := fun w' hk hl => by
            rw [HRE.out]
            exact ⟨hk, _, _, _, hl⟩
          by_cases hkl : k < s.size
          · have hby := byteAt s k hkl
            have hbl : s[k].toNat < 256 := s[k].toNat_lt
            have n125 : ((s[k].toNat : Int) == 125) = false := by
              have h9 : ((s[k].toNat : Int) == ((125 : UInt8).toNat : Int)) = (s[k] == 125) := u8_eq
              have h8 : (s[k] == 125) = false := by
                have : ¬ s[k] = 125 := fun h => h125 (by rw [List.getElem?_eq_getElem (by simpa using hkl), hby, h])
                simpa using this
              rw [h8] at h9
              exact h9
            clear h125 hby
            go_quiet (fail)
            go_wp2_with (first
              | (go_at_call 26; refine (HWD.out _).mono ?_; clear HWD; rintro en w2 ⟨rfl, hw⟩; have hw := hw.symm; subst hw)
              | (go_at_call 43; refine (HN.out _ _ (HLw.out _)).mono ?_; clear HN; rintro en w3 ⟨⟨v, rfl⟩, hl, hk⟩))
            refine bodyPost_ret (results_none rfl _ _ _) rfl ?_
            exact ⟨⟨_, rfl⟩, hfin _ ((HKw.out _ _).two hk) hl⟩
          · clear h125
            go_quiet (fail)
            go_wp2_with (first
              | (go_at_call 26; refine (HWD.out _).mono ?_; clear HWD; rintro en w2 ⟨rfl, hw⟩; have hw := hw.symm; subst hw)
              | (go_at_call 43; refine (HN.out _ _ (HLw.out _)).mono ?_; clear HN; rintro en w3 ⟨⟨v, rfl⟩, hl, hk⟩))
            refine bodyPost_ret (results_none rfl _ _ _) rfl ?_
            exact ⟨⟨_, rfl⟩, hfin _ ((HKw.out _ _).two hk) hl⟩
        · have hkl : k < s.size := by
            rcases Nat.lt_or_ge k s.size with h | h
            · exact h
            · exact absurd (wordP_end (by rw [len_list]; exact h)) hw
          have hby := byteAt s k hkl
          have hbl : s[k].toNat < 256 := s[k].toNat_lt
          have n125 : ((s[k].toNat : Int) == 125) = false := by
            have h9 : ((s[k].toNat : Int) == ((125 : UInt8).toNat : Int)) = (s[k] == 125) := u8_eq
            have h8 : (s[k] == 125) = false := by
              have : ¬ s[k] = 125 := fun h => h125 (by rw [List.getElem?_eq_getElem (by simpa using hkl), hby, h])
              simpa using this
            rw [h8] at h9
            exact h9
          rw [labR_val, if_neg hw] at hR
          have w1 := wo_ge false s k
          have w2 := wo_le (co := false) k2
          have hWD := fun W => refWordP_any s k false W k2 (by omega)
          generalize wordP false s.data.toList k = j2 at *
          have HWD : Hid (∀ W, Calls Tryz.prog 26 #[.string s, .int .i64 k, .bool false] W fun e w' => e = .returned (.int .i64 j2) ∧ w' = W) := hWD
          have nk : ((j2 : Int) == k) = false := by simp; omega
          have m1 := sk_ge s j2
          have m2 := sk_le w2
          have hSK := fun W => refSkip_any s j2 W w2 (by omega)
          generalize skipP s.data.toList j2 = m at *
          have HSK : Hid (∀ W, Calls Tryz.prog 25 #[.string s, .int .i64 j2] W fun e w' => e = .returned (.int .i64 m) ∧ w' = W) := hSK
          clear h125 hby HR hWD hSK HLw HKw hw
          have HRX : Hid _ := hR
          clear hR
          go_quiet (fail)
          go_wp2_with (go_at_call 26; refine (HWD.out _).mono ?_; clear HWD; rintro en w2 ⟨rfl, hw⟩; have hw := hw.symm; subst hw)
          go_quiet (fail)
          go_wp2_with fail
          refine goOn (S := fun W => NsS w X s W j2 false q e a1 a2 c1' c2' acc) (HS.out.mv HX.out _ _ _) ?_
          clear HS c0 c1 c2 c3 c4 c5 c6 f1 f2 f3 f4 f5 f6
          rintro WB hA
          have HS : Hid (NsS w X s WB j2 false q e a1 a2 c1' c2' acc) := hA
          clear hA
          obtain ⟨c0, c1, c2, c3, c4, c5, c6, f1, f2, f3, f4, f5, f6⟩ := HS.out.ln.x
          refine wp_region_still_tail 12 (by kernel_rfl) (by kernel_rfl) ?_
          simp only [List.take_succ_cons, List.take_zero, List.drop_succ_cons, List.drop_zero]
          iterate 9 still_step
          still_call (HSK.out _)
          iterate 2 still_step
          refine wpStill_nil ?_
          go_upto_region 11 with (fail)
          refine goOn (S := fun W => NsS w X s W m false q e a1 a2 c1' c2' acc) (HS.out.mv1 HX.out _) ?_
          clear HS HSK c0 c1 c2 c3 c4 c5 c6 f1 f2 f3 f4 f5 f6
          rintro WC hA
          have HS : Hid (NsS w X s WC m false q e a1 a2 c1' c2' acc) := hA
          clear hA
          obtain ⟨c0, c1, c2, c3, c4, c5, c6, f1, f2, f3, f4, f5, f6⟩ := HS.out.ln.x
          have hEat := refEat_any X s m q e (.slice a1 acc.length c1') (.slice a2 acc.length c2') 61 WC HS.out.ln m2 (by omega)
          have HLB : Hid (∀ W p, LnAt W X s p true m 8 (.slice a1 acc.length c1') (.slice a2 acc.length c2') → LnAt (W.drew.setCell ⟨X, 1, none⟩ (.int .i64 (skipP s.data.toList p : Nat))) X s (skipP s.data.toList p) true m 8 (.slice a1 acc.length c1') (.slice a2 acc.length c2')) := fun W p hl => (hl.drewN 1).set1 _ rfl
          by_cases h61 : s.data.toList[m]? = some 61
          · have hm3 := some_lt h61
            have HE : Hid (Calls Tryz.prog 44 #[.pointer (some ⟨X, 0, none⟩), .int .u8 61] WC fun en w' => (∃ v, en = .returned v) ∧ NsS w X s w' (m + 1) false q e a1 a2 c1' c2' acc) := hEat.mono (by
              rintro en w' ⟨hv, hl | hl, hk⟩
              · exact ⟨hv, HS.out.step HX.out hk hl.2⟩
              · exact absurd h61 hl.1)
            have hR := HRX.out
            rw [if_neg (by simpa using h61)] at hR
            have o1 := sk_ge s (m + 1)
            have o2 := sk_le (s := s) (i := m + 1) (by omega)
            have hSK := fun W => refSkip_any s (m + 1) W (by omega) (by omega)
            generalize skipP s.data.toList (m + 1) = o at *
            obtain ⟨m', hm', hmI⟩ : ∃ m' : Nat, m' = m + 1 ∧ (m : Int) + 1 = m' := ⟨m + 1, rfl, by omega⟩
            rw [← hm'] at HE hSK
            have HSK : Hid (∀ W, Calls Tryz.prog 25 #[.string s, .int .i64 m'] W fun e w' => e = .returned (.int .i64 o) ∧ w' = W) := hSK
            have HRY : Hid _ := hR
            clear HRX hR hEat HLB h61 hSK hm' hmI HS HN
            go_upto_region 12 with (go_at_call 44; refine HE.out.mono ?_; clear HE c0 c1 c2 c3 c4 c5 c6 f1 f2 f3 f4 f5 f6; rintro en WD ⟨⟨v, rfl⟩, hl⟩; have HS : Hid (NsS w X s WD m' false q e a1 a2 c1' c2' acc) := hl; clear hl; obtain ⟨c0, c1, c2, c3, c4, c5, c6, f1, f2, f3, f4, f5, f6⟩ := HS.out.ln.x)
            refine wp_region_still_tail 12 (by kernel_rfl) (by kernel_rfl) ?_
            simp only [List.take_succ_cons, List.take_zero, List.drop_succ_cons, List.drop_zero]
            iterate 9 still_step
            still_call (HSK.out _)
            iterate 2 still_step
            refine wpStill_nil ?_
            go_upto_region 13 with (fail)
            refine goOn (S := fun W => NsS w X s W o false q e a1 a2 c1' c2' acc) (HS.out.mv1 HX.out _) ?_
            clear HS HSK c0 c1 c2 c3 c4 c5 c6 f1 f2 f3 f4 f5 f6
            rintro WE hA
            have HS : Hid (NsS w X s WE o false q e a1 a2 c1' c2' acc) := hA
            clear hA
            have HVL : Hid (Calls Tryz.prog 45 #[.pointer (some ⟨X, 0, none⟩)] WE fun en w' => ValP WE X s o q e (.slice a1 acc.length c1') (.slice a2 acc.length c2') (valR s o) en w') := refValue_any X s o q e _ _ WE HS.out.ln o2 hs H10.out
            have hR := HRY.out
            clear HRY
            cases hv : valR s o with
            | inl z =>
              rw [hv] at hR HVL
              have HRE : Hid (R = .inl (z, 8)) := hR.symm
              have HVL : Hid (Calls Tryz.prog 45 #[.pointer (some ⟨X, 0, none⟩)] WE fun en w' => (∃ t, en = .returned (.string t)) ∧ (∃ j, LnAt w' X s j true z 8 (.slice a1 acc.length c1') (.slice a2 acc.length c2')) ∧ Kept (fun k => k = X) WE w') := HVL.out.mono (by
                rintro en w' ⟨hk, h1, h2⟩
                exact ⟨h1, h2, hk⟩)
              clear hR hv
              go_wp2_with (go_at_call 45; refine HVL.out.mono ?_; clear HVL; rintro en w2 ⟨⟨t, rfl⟩, hl, hk⟩; obtain ⟨j9, hl9⟩ := hl; have HL : Hid (LnAt w2 X s j9 true z 8 (.slice a1 acc.length c1') (.slice a2 acc.length c2')) := hl9; have HK : Hid (Kept (fun k => k = X) w w2) := HS.out.kept.two hk; have c29 := hl9.x.c2; clear hk hl9)
              refine bodyPost_ret (results_none rfl _ _ _) rfl ?_
              rw [HRE.out]
              exact ⟨⟨_, rfl⟩, HK.out, _, _, _, HL.out⟩
            | inr vz =>
              obtain ⟨v, z⟩ := vz
              rw [hv] at hR HVL
              dsimp only at hR
              cases hvd : Lib.validD v with
              | false =>
                rw [hvd, if_neg (by decide)] at hR
                have HRE : Hid (R = .inl (o, 8)) := hR.symm
                have HVL : Hid (Calls Tryz.prog 45 #[.pointer (some ⟨X, 0, none⟩)] WE fun en w' => (∃ t, en = .returned (.string t)) ∧ (∃ j, LnAt w' X s j true o 8 (.slice a1 acc.length c1') (.slice a2 acc.length c2')) ∧ Kept (fun k => k = X) WE w') := HVL.out.mono (by
                  rintro en w' ⟨hk, h1⟩
                  dsimp only at h1
                  rw [hvd, if_neg (by decide)] at h1
                  exact ⟨h1.1, h1.2, hk⟩)
                clear hR hv hvd
                go_wp2_with (go_at_call 45; refine HVL.out.mono ?_; clear HVL; rintro en w2 ⟨⟨t, rfl⟩, hl, hk⟩; obtain ⟨j9, hl9⟩ := hl; have HL : Hid (LnAt w2 X s j9 true o 8 (.slice a1 acc.length c1') (.slice a2 acc.length c2')) := hl9; have HK : Hid (Kept (fun k => k = X) w w2) := HS.out.kept.two hk; have c29 := hl9.x.c2; clear hk hl9)
                refine bodyPost_ret (results_none rfl _ _ _) rfl ?_
                rw [HRE.out]
                exact ⟨⟨_, rfl⟩, HK.out, _, _, _, HL.out⟩
              | true =>
                rw [hvd, if_pos rfl] at hR
                dsimp only at hR
                have HVL : Hid (Calls Tryz.prog 45 #[.pointer (some ⟨X, 0, none⟩)] WE fun en w' => en = .returned (.string ⟨v.toArray⟩) ∧ NsS w X s w' z false q e a1 a2 c1' c2' acc) := HVL.out.mono (by
                  rintro en w' ⟨hk, h1⟩
                  dsimp only at h1
                  rw [hvd, if_pos rfl] at h1
                  exact ⟨h1.1, HS.out.step HX.out hk h1.2⟩)
                have hz : o < z ∧ z ≤ s.size := by
                  unfold valR at hv
                  by_cases h34 : s.data.toList[o]? = some 34
                  · rw [if_pos h34] at hv
                    have h9 := (quotP_place _ (s.data.toList.drop (o + 1)) (o + 1) [] (Nat.le_refl _)).2 v z hv
                    have := some_lt h34
                    rw [List.length_drop, len_list] at h9
                    omega
                  · rw [if_neg h34] at hv; cases hv
                have HN13 : Hid (∀ W, NsS w X s W z false q e a1 a2 c1' c2' acc → Calls Tryz.prog 43 #[.pointer (some ⟨X, 0, none⟩), .int .i64 k, .int .i64 13] W fun en w' => (∃ v, en = .returned v) ∧ NsS w X s w' z true k 13 a1 a2 c1' c2' acc) := fun W hW => (refNo_any X s z q e 13 _ _ k W hW.ln).mono (by
                  rintro en w' ⟨hv, hl, hk⟩
                  exact ⟨hv, hW.step HX.out hk hl⟩)
                have HNB : Hid (∀ W, NsS w X s W z true k 13 a1 a2 c1' c2' acc → Calls Tryz.prog 43 #[.pointer (some ⟨X, 0, none⟩), .int .i64 k, .int .i64 13] W fun en w' => (∃ v, en = .returned v) ∧ w' = W) := fun W hW => refNo_bad X s z k 13 13 _ _ k W hW.ln
                have HRZ : Hid _ := hR
                have hal : acc.length ≤ 4000 := by omega
                clear hv hvd hR HS
                go_wp2_with (go_at_call 45; refine HVL.out.mono ?_; clear HVL; rintro en WF ⟨rfl, hl⟩; have HS : Hid (NsS w X s WF z false q e a1 a2 c1' c2' acc) := hl; clear hl; obtain ⟨c0, c1, c2, c3, c4, c5, c6, f1, f2, f3, f4, f5, f6⟩ := HS.out.ln.x)
                go_loopw [5] (fun iv wx => ∃ i2 : Nat, i2 ≤ acc.length ∧ iv = .int .i64 i2 ∧ ((Hid (hasL (acc.take i2) (s.extract k j2) = false) ∧ Hid (NsS w X s wx z false q e a1 a2 c1' c2' acc)) ∨ (Hid (hasL (acc.take i2) (s.extract k j2) = true) ∧ Hid (NsS w X s wx z true k 13 a1 a2 c1' c2' acc)))) (fun iv _ => acc.length - (intOf iv).toNat)
                case atStart => exact ⟨0, Nat.zero_le _, rfl, .inl ⟨rfl, HS⟩⟩
                case round =>
                  clear HS c0 c1 c2 c3 c4 c5 c6 f1 f2 f3 f4 f5 f6
                  obtain ⟨i2, hi2, rfl, hst⟩ := hrel
                  by_cases hlt : i2 < acc.length
                  · have hT := hasL_take acc (s.extract k j2) i2 hlt
                    rcases hst with ⟨HB, HS⟩ | ⟨HB, HS⟩
                    · obtain ⟨g, rfl, hcell⟩ := row_txt HS.out.nms (by simp) i2 hlt
                      obtain ⟨c0, c1, c2, c3, c4, c5, c6, f1, f2, f3, f4, f5, f6⟩ := HS.out.ln.x
                      rw [List.getElem_map] at hcell
                      rw [HB.out, Bool.false_or] at hT
                      cases heq : acc[i2].1.toList == (s.extract k j2).toList with
                      | true =>
                        rw [heq] at hT
                        have HT : Hid (hasL (acc.take (i2 + 1)) (s.extract k j2) = true) := hT
                        clear hT HB
                        go_wp2_with (go_at_call 43; refine (HN13.out _ HS.out).mono ?_; clear HN13; rintro en w3 ⟨⟨v, rfl⟩, hl⟩)
                        go_roundw
                        case rel => exact ⟨i2 + 1, by omega, by go_num, .inr ⟨HT, hl⟩⟩
                        case measure => simp [intOf]; omega
                      | false =>
                        rw [heq] at hT
                        have HT : Hid (hasL (acc.take (i2 + 1)) (s.extract k j2) = false) := hT
                        clear hT HB
                        go_wp2
                        go_roundw
                        case rel => exact ⟨i2 + 1, by omega, by go_num, .inl ⟨HT, HS⟩⟩
                        case measure => simp [intOf]; omega
                    · obtain ⟨g, rfl, hcell⟩ := row_txt HS.out.nms (by simp) i2 hlt
                      obtain ⟨c0, c1, c2, c3, c4, c5, c6, f1, f2, f3, f4, f5, f6⟩ := HS.out.ln.x
                      rw [List.getElem_map] at hcell
                      rw [HB.out, Bool.true_or] at hT
                      have HT : Hid (hasL (acc.take (i2 + 1)) (s.extract k j2) = true) := hT
                      clear hT HB
                      cases heq : acc[i2].1.toList == (s.extract k j2).toList with
                      | true =>
                        go_wp2_with (go_at_call 43; refine (HNB.out _ HS.out).mono ?_; clear HNB; rintro en w3 ⟨⟨v, rfl⟩, hw⟩; have hw := hw.symm; subst hw)
                        go_roundw
                        case rel => exact ⟨i2 + 1, by omega, by go_num, .inr ⟨HT, HS⟩⟩
                        case measure => simp [intOf]; omega
                      | false =>
                        go_wp2
                        go_roundw
                        case rel => exact ⟨i2 + 1, by omega, by go_num, .inr ⟨HT, HS⟩⟩
                        case measure => simp [intOf]; omega
                  · obtain rfl : i2 = acc.length := by omega
                    rw [List.take_length] at hst
                    obtain ⟨i0, hi0, hz0, hz1, hz2⟩ := info_parts infoS
                    obtain ⟨z2, hz2e⟩ : ∃ z2, z2 = skipP s.data.toList z := ⟨_, rfl⟩
                    have q1 := sk_ge s z
                    have q2 := sk_le hz.2
                    rw [← hz2e] at q1 q2
                    have HZE : Hid (z2 = skipP s.data.toList z) := hz2e
                    have HSK : Hid (∀ W, Calls Tryz.prog 25 #[.string s, .int .i64 z] W fun e w' => e = .returned (.int .i64 z2) ∧ w' = W) := fun W => by
                      rw [hz2e]
                      exact refSkip_any s z W hz.2 (by omega)
                    obtain ⟨ac, hac⟩ : ∃ ac, ac = acc ++ [(s.extract k j2, (⟨v.toArray⟩ : ByteArray))] := ⟨_, rfl⟩
                    have HAC : Hid (ac = acc ++ [(s.extract k j2, ⟨v.toArray⟩)]) := hac
                    have hacl : ac.length = acc.length + 1 := by rw [hac]; simp
                    have HACL : Hid (ac.length = acc.length + 1) := hacl
                    clear hz2e hac hacl HN13 HNB
                    rcases hst with ⟨HB, HS⟩ | ⟨HB, HS⟩
                    · obtain ⟨c0, c1, c2, c3, c4, c5, c6, f1, f2, f3, f4, f5, f6⟩ := HS.out.ln.x
                      go_upto_region 21 with (at_builtin; refine wpList_append_own_at _ rfl _ _ 22 rfl w.heap.size 9 i0 (.string ByteArray.empty) 1 16 Tryz.underlying22 hi0 hz0 hz1 hz2 rfl (by decide) _ acc.length (txCells (acc.map Prod.fst)) rfl (HS.out.nms.alloc _) ⟨wr.heap.size, 0, none⟩ 1 1 [.string (s.extract k j2)] rfl rfl (cell_one_new _ _ _) (by simp [Value.oneCell']) (by unfold maxLen; omega) (by omega) (by have := HS.out.kept.size; simp; omega) ?_; intro v1 w1 hr1 hg1 hx1 hloc1; clear hx1; obtain ⟨b1, d1, rfl⟩ := slice_of_row hr1; have HP : Hid (NsM w X s (w1.setCell ⟨X, 5, none⟩ (.slice b1 (acc.length + 1) d1)) z false q e b1 a2 d1 c2' acc (s.extract k j2)) := HS.out.push HX.out hr1 hg1 hloc1; clear c0 c1 c2 c3 c4 c5 c6 f1 f2 f3 f4 f5 f6; obtain ⟨c0, c1, c2, c3, c4, c5, c6, f1, f2, f3, f4, f5, f6⟩ := HS.out.mid HX.out hg1; clear hr1 hg1 hloc1)
                      refine goOn (S := fun W => NsM w X s W z false q e b1 a2 d1 c2' acc (s.extract k j2)) HP.out ?_
                      clear HP HS c0 c1 c2 c3 c4 c5 c6 f1 f2 f3 f4 f5 f6
                      rintro WG hA
                      have HS : Hid (NsM w X s WG z false q e b1 a2 d1 c2' acc (s.extract k j2)) := hA
                      clear hA
                      obtain ⟨c0, c1, c2, c3, c4, c5, c6, f1, f2, f3, f4, f5, f6⟩ := HS.out.ln.x
                      go_upto_region 22 with (at_builtin; refine wpList_append_own_at _ rfl _ _ 22 rfl w.heap.size 9 i0 (.string ByteArray.empty) 1 16 Tryz.underlying22 hi0 hz0 hz1 hz2 rfl (by decide) _ acc.length (txCells (acc.map Prod.snd)) rfl (HS.out.vls.alloc _) ⟨WG.heap.size, 0, none⟩ 1 1 [.string ⟨v.toArray⟩] rfl rfl (cell_one_new _ _ _) (by simp [Value.oneCell']) (by unfold maxLen; omega) (by omega) (by have := HS.out.kept.size; simp; omega) ?_; intro v2 w1 hr1 hg1 hx1 hloc1; clear hx1; obtain ⟨b2, d2, rfl⟩ := slice_of_row hr1; have HP : Hid (NsS w X s (w1.setCell ⟨X, 6, none⟩ (.slice b2 (acc.length + 1) d2)) z false q e b1 b2 d1 d2 (acc ++ [(s.extract k j2, ⟨v.toArray⟩)])) := HS.out.push HX.out hr1 hg1 hloc1; clear c0 c1 c2 c3 c4 c5 c6 f1 f2 f3 f4 f5 f6; obtain ⟨c0, c1, c2, c3, c4, c5, c6, f1, f2, f3, f4, f5, f6⟩ := HS.out.mid HX.out hg1; clear hr1 hg1 hloc1)
                      refine goOn (S := fun W => NsS w X s W z false q e b1 b2 d1 d2 ac) (by rw [HAC.out]; exact HP.out) ?_
                      clear HP HS c0 c1 c2 c3 c4 c5 c6 f1 f2 f3 f4 f5 f6
                      rintro WH hA
                      have HS : Hid (NsS w X s WH z false q e b1 b2 d1 d2 ac) := hA
                      clear hA
                      obtain ⟨c0, c1, c2, c3, c4, c5, c6, f1, f2, f3, f4, f5, f6⟩ := HS.out.ln.x
                      refine wp_region_still_tail 12 (by kernel_rfl) (by kernel_rfl) ?_
                      simp only [List.take_succ_cons, List.take_zero, List.drop_succ_cons, List.drop_zero]
                      iterate 9 still_step
                      still_call (HSK.out _)
                      iterate 2 still_step
                      refine wpStill_nil ?_
                      go_upto_region 23 with (fail)
                      refine goOn (S := fun W => NsS w X s W z2 false q e b1 b2 d1 d2 ac) (HS.out.mv1 HX.out _) ?_
                      clear HS HSK c0 c1 c2 c3 c4 c5 c6 f1 f2 f3 f4 f5 f6
                      rintro WI hA
                      have HS : Hid (NsS w X s WI z2 false q e b1 b2 d1 d2 ac) := hA
                      clear hA
                      obtain ⟨c0, c1, c2, c3, c4, c5, c6, f1, f2, f3, f4, f5, f6⟩ := HS.out.ln.x
                      have hR := HRZ.out
                      rw [HB.out, if_neg (by decide), ← HZE.out, ← HAC.out] at hR
                      clear HRZ HB HAC
                      by_cases h44 : s.data.toList[z2]? = some 44
                      · have hzl := some_lt h44
                        have hby := byteAt s z2 hzl
                        have hat : s.data.toList[z2]? = some s[z2] := by rw [List.getElem?_eq_getElem (by simpa using hzl), hby]
                        have hbl : s[z2].toNat < 256 := s[z2].toNat_lt
                        rw [if_pos h44] at hR
                        have HRN : Hid (labsR s n' (z2 + 1) ac = R) := hR
                        have m44 : (s[z2].toNat : Int) = 44 := by rw [Option.some.inj (hat.symm.trans h44)]; rfl
                        clear hat hby h44 hR HZE
                        go_quiet (fail)
                        go_wp2
                        have hl : ∀ n v, v = Value.int .i64 ((z2 + 1 : Nat) : Int) → NsS w X s ((WI.drewN n).setCell ⟨X, 1, none⟩ v) (z2 + 1) false q e b1 b2 d1 d2 ac := fun n v hv => HS.out.step HX.out (((Kept.refl _ WI).drewN n).two (keptX _ X 1 v)) ((HS.out.ln.drewN n).set1 (z2 + 1) hv)
                        have HL : Hid _ := hl
                        clear hl
                        go_roundw
                        case rel => exact .inl ⟨n', z2 + 1, ac, b1, b2, d1, d2, by omega, by omega, by rw [HACL.out]; omega, HL.out _ _ (by go_num), HRN⟩
                        case measure => rw [HM.out, vM_run (HL.out _ _ (by go_num)).ln]; omega
                      · rw [if_neg h44] at hR
                        have HE : Hid (∀ n, Calls Tryz.prog 44 #[.pointer (some ⟨X, 0, none⟩), .int .u8 125] (WI.drewN n) fun en w' => (∃ v, en = .returned v) ∧ Kept (fun k => k = X) w w' ∧ LbQ w X s q e R w') := fun n => by
                          refine (refEat_any X s z2 q e _ _ 125 (WI.drewN n) (HS.out.ln.drewN n) q2 (by omega)).mono ?_
                          rintro en w' ⟨hv, hl, hk⟩
                          have hk2 := ((Kept.refl (fun k => k = X) WI).drewN n).two hk
                          refine ⟨hv, HS.out.kept.two hk2, ?_⟩
                          rcases hl with ⟨h5, hl⟩ | ⟨h5, hl⟩
                          · rw [if_pos h5] at hR
                            rw [← hR]
                            exact ⟨_, _, _, _, HS.out.step HX.out hk2 hl⟩
                          · rw [if_neg h5] at hR
                            rw [← hR]
                            exact ⟨_, _, _, hl⟩
                        by_cases hzl : z2 < s.size
                        · have hby := byteAt s z2 hzl
                          have hat : s.data.toList[z2]? = some s[z2] := by rw [List.getElem?_eq_getElem (by simpa using hzl), hby]
                          have hbl : s[z2].toNat < 256 := s[z2].toNat_lt
                          have n44 : ((s[z2].toNat : Int) == 44) = false := by
                            have h9 : ((s[z2].toNat : Int) == ((44 : UInt8).toNat : Int)) = (s[z2] == 44) := u8_eq
                            have h8 : (s[z2] == 44) = false := by
                              have : ¬ s[z2] = 44 := fun h => h44 (by rw [hat, h])
                              simpa using this
                            rw [h8] at h9
                            exact h9
                          clear hat hby h44 hR HZE
                          go_quiet (fail)
                          go_wp2_with (go_at_call 44; refine (HE.out _).mono ?_; clear HE; rintro en w9 ⟨⟨v, rfl⟩, hk9, hq9⟩)
                          refine bodyPost_ret (results_none rfl _ _ _) rfl ?_
                          exact ⟨⟨_, rfl⟩, hk9, hq9⟩
                        · clear h44 hR HZE
                          go_quiet (fail)
                          go_wp2_with (go_at_call 44; refine (HE.out _).mono ?_; clear HE; rintro en w9 ⟨⟨v, rfl⟩, hk9, hq9⟩)
                          refine bodyPost_ret (results_none rfl _ _ _) rfl ?_
                          exact ⟨⟨_, rfl⟩, hk9, hq9⟩
                    · obtain ⟨c0, c1, c2, c3, c4, c5, c6, f1, f2, f3, f4, f5, f6⟩ := HS.out.ln.x
                      go_upto_region 21 with (at_builtin; refine wpList_append_own_at _ rfl _ _ 22 rfl w.heap.size 9 i0 (.string ByteArray.empty) 1 16 Tryz.underlying22 hi0 hz0 hz1 hz2 rfl (by decide) _ acc.length (txCells (acc.map Prod.fst)) rfl (HS.out.nms.alloc _) ⟨wr.heap.size, 0, none⟩ 1 1 [.string (s.extract k j2)] rfl rfl (cell_one_new _ _ _) (by simp [Value.oneCell']) (by unfold maxLen; omega) (by omega) (by have := HS.out.kept.size; simp; omega) ?_; intro v1 w1 hr1 hg1 hx1 hloc1; clear hx1; obtain ⟨b1, d1, rfl⟩ := slice_of_row hr1; have HP : Hid (NsM w X s (w1.setCell ⟨X, 5, none⟩ (.slice b1 (acc.length + 1) d1)) z true k 13 b1 a2 d1 c2' acc (s.extract k j2)) := HS.out.push HX.out hr1 hg1 hloc1; clear c0 c1 c2 c3 c4 c5 c6 f1 f2 f3 f4 f5 f6; obtain ⟨c0, c1, c2, c3, c4, c5, c6, f1, f2, f3, f4, f5, f6⟩ := HS.out.mid HX.out hg1; clear hr1 hg1 hloc1)
                      refine goOn (S := fun W => NsM w X s W z true k 13 b1 a2 d1 c2' acc (s.extract k j2)) HP.out ?_
                      clear HP HS c0 c1 c2 c3 c4 c5 c6 f1 f2 f3 f4 f5 f6
                      rintro WG hA
                      have HS : Hid (NsM w X s WG z true k 13 b1 a2 d1 c2' acc (s.extract k j2)) := hA
                      clear hA
                      obtain ⟨c0, c1, c2, c3, c4, c5, c6, f1, f2, f3, f4, f5, f6⟩ := HS.out.ln.x
                      go_upto_region 22 with (at_builtin; refine wpList_append_own_at _ rfl _ _ 22 rfl w.heap.size 9 i0 (.string ByteArray.empty) 1 16 Tryz.underlying22 hi0 hz0 hz1 hz2 rfl (by decide) _ acc.length (txCells (acc.map Prod.snd)) rfl (HS.out.vls.alloc _) ⟨WG.heap.size, 0, none⟩ 1 1 [.string ⟨v.toArray⟩] rfl rfl (cell_one_new _ _ _) (by simp [Value.oneCell']) (by unfold maxLen; omega) (by omega) (by have := HS.out.kept.size; simp; omega) ?_; intro v2 w1 hr1 hg1 hx1 hloc1; clear hx1; obtain ⟨b2, d2, rfl⟩ := slice_of_row hr1; have HP : Hid (NsS w X s (w1.setCell ⟨X, 6, none⟩ (.slice b2 (acc.length + 1) d2)) z true k 13 b1 b2 d1 d2 (acc ++ [(s.extract k j2, ⟨v.toArray⟩)])) := HS.out.push HX.out hr1 hg1 hloc1; clear c0 c1 c2 c3 c4 c5 c6 f1 f2 f3 f4 f5 f6; obtain ⟨c0, c1, c2, c3, c4, c5, c6, f1, f2, f3, f4, f5, f6⟩ := HS.out.mid HX.out hg1; clear hr1 hg1 hloc1)
                      refine goOn (S := fun W => NsS w X s W z true k 13 b1 b2 d1 d2 ac) (by rw [HAC.out]; exact HP.out) ?_
                      clear HP HS c0 c1 c2 c3 c4 c5 c6 f1 f2 f3 f4 f5 f6
                      rintro WH hA
                      have HS : Hid (NsS w X s WH z true k 13 b1 b2 d1 d2 ac) := hA
                      clear hA
                      obtain ⟨c0, c1, c2, c3, c4, c5, c6, f1, f2, f3, f4, f5, f6⟩ := HS.out.ln.x
                      refine wp_region_still_tail 12 (by kernel_rfl) (by kernel_rfl) ?_
                      simp only [List.take_succ_cons, List.take_zero, List.drop_succ_cons, List.drop_zero]
                      iterate 9 still_step
                      still_call (HSK.out _)
                      iterate 2 still_step
                      refine wpStill_nil ?_
                      go_upto_region 23 with (fail)
                      refine goOn (S := fun W => NsS w X s W z2 true k 13 b1 b2 d1 d2 ac) (HS.out.mv1 HX.out _) ?_
                      clear HS HSK c0 c1 c2 c3 c4 c5 c6 f1 f2 f3 f4 f5 f6
                      rintro WI hA
                      have HS : Hid (NsS w X s WI z2 true k 13 b1 b2 d1 d2 ac) := hA
                      clear hA
                      obtain ⟨c0, c1, c2, c3, c4, c5, c6, f1, f2, f3, f4, f5, f6⟩ := HS.out.ln.x
                      have hR := HRZ.out
                      rw [HB.out, if_pos rfl] at hR
                      have HRE : Hid (R = .inl (k, 13)) := hR.symm
                      clear HRZ HB HAC
                      by_cases h44 : s.data.toList[z2]? = some 44
                      · have hzl := some_lt h44
                        have hby := byteAt s z2 hzl
                        have hat : s.data.toList[z2]? = some s[z2] := by rw [List.getElem?_eq_getElem (by simpa using hzl), hby]
                        have hbl : s[z2].toNat < 256 := s[z2].toNat_lt
                        have m44 : (s[z2].toNat : Int) = 44 := by rw [Option.some.inj (hat.symm.trans h44)]; rfl
                        clear hat hby h44 hR HZE
                        go_quiet (fail)
                        go_wp2
                        have hl : ∀ n v, v = Value.int .i64 ((z2 + 1 : Nat) : Int) → LnAt ((WI.drewN n).setCell ⟨X, 1, none⟩ v) X s (z2 + 1) true k 13 (.slice b1 ac.length d1) (.slice b2 ac.length d2) ∧ Kept (fun k => k = X) w ((WI.drewN n).setCell ⟨X, 1, none⟩ v) := fun n v hv => ⟨(HS.out.ln.drewN n).set1 (z2 + 1) hv, HS.out.kept.two (((Kept.refl _ WI).drewN n).two (keptX _ X 1 v))⟩
                        have HL : Hid _ := hl
                        clear hl
                        go_roundw
                        case rel => exact .inr ⟨z2 + 1, k, 13, _, _, HRE, (HL.out _ _ (by go_num)).1, (HL.out _ _ (by go_num)).2⟩
                        case measure => rw [HM.out, vM_bad (HL.out _ _ (by go_num)).1]; omega
                      · have HE : Hid (∀ n, Calls Tryz.prog 44 #[.pointer (some ⟨X, 0, none⟩), .int .u8 125] (WI.drewN n) fun en w' => (∃ v, en = .returned v) ∧ Kept (fun k => k = X) w w' ∧ LbQ w X s q e R w') := fun n => by
                          refine (refEat_bad X s z2 k 13 _ _ 125 (WI.drewN n) (HS.out.ln.drewN n)).mono ?_
                          rintro en w' ⟨hv, rfl⟩
                          refine ⟨hv, HS.out.kept.two ((Kept.refl _ WI).drewN n), ?_⟩
                          rw [HRE.out]
                          exact ⟨_, _, _, HS.out.ln.drewN n⟩
                        by_cases hzl : z2 < s.size
                        · have hby := byteAt s z2 hzl
                          have hat : s.data.toList[z2]? = some s[z2] := by rw [List.getElem?_eq_getElem (by simpa using hzl), hby]
                          have hbl : s[z2].toNat < 256 := s[z2].toNat_lt
                          have n44 : ((s[z2].toNat : Int) == 44) = false := by
                            have h9 : ((s[z2].toNat : Int) == ((44 : UInt8).toNat : Int)) = (s[z2] == 44) := u8_eq
                            have h8 : (s[z2] == 44) = false := by
                              have : ¬ s[z2] = 44 := fun h => h44 (by rw [hat, h])
                              simpa using this
                            rw [h8] at h9
                            exact h9
                          clear hat hby h44 hR HZE
                          go_quiet (fail)
                          go_wp2_with (go_at_call 44; refine (HE.out _).mono ?_; clear HE; rintro en w9 ⟨⟨v, rfl⟩, hk9, hq9⟩)
                          refine bodyPost_ret (results_none rfl _ _ _) rfl ?_
                          exact ⟨⟨_, rfl⟩, hk9, hq9⟩
                        · clear h44 hR HZE
                          go_quiet (fail)
                          go_wp2_with (go_at_call 44; refine (HE.out _).mono ?_; clear HE; rintro en w9 ⟨⟨v, rfl⟩, hk9, hq9⟩)
                          refine bodyPost_ret (results_none rfl _ _ _) rfl ?_
                          exact ⟨⟨_, rfl⟩, hk9, hq9⟩
          · have HE : Hid (Calls Tryz.prog 44 #[.pointer (some ⟨X, 0, none⟩), .int .u8 61] WC fun en w' => (∃ v, en = .returned v) ∧ LnAt w' X s m true m 8 (.slice a1 acc.length c1') (.slice a2 acc.length c2') ∧ Kept (fun k => k = X) w w') := hEat.mono (by
              rintro en w' ⟨hv, hl | hl, hk⟩
              · exact absurd hl.1 h61
              · exact ⟨hv, hl.2, HS.out.kept.two hk⟩)
            have hR := HRX.out
            rw [if_pos (by simpa using h61)] at hR
            have HRE : Hid (R = .inl (m, 8)) := hR.symm
            have HSK : Hid (∀ W, Calls Tryz.prog 25 #[.string s, .int .i64 m] W fun e w' => e = .returned (.int .i64 (skipP s.data.toList m : Nat)) ∧ w' = W) := fun W => refSkip_any s m W m2 (by omega)
            have HVB : Hid (∀ W p, LnAt W X s p true m 8 (.slice a1 acc.length c1') (.slice a2 acc.length c2') → Calls Tryz.prog 45 #[.pointer (some ⟨X, 0, none⟩)] W fun en w' => (∃ t, en = .returned (.string t)) ∧ w' = W) := fun W p hl => refValue_bad X s p m 8 _ _ W hl
            clear HRX hR hEat h61 HS HN
            go_upto_region 12 with (go_at_call 44; refine HE.out.mono ?_; clear HE c0 c1 c2 c3 c4 c5 c6 f1 f2 f3 f4 f5 f6; rintro en WD ⟨⟨v, rfl⟩, hl, hk⟩; have HL : Hid (LnAt WD X s m true m 8 (.slice a1 acc.length c1') (.slice a2 acc.length c2')) := hl; have HK : Hid (Kept (fun k => k = X) w WD) := hk; clear hl hk; obtain ⟨c0, c1, c2, c3, c4, c5, c6, f1, f2, f3, f4, f5, f6⟩ := HL.out.x)
            refine wp_region_still_tail 12 (by kernel_rfl) (by kernel_rfl) ?_
            simp only [List.take_succ_cons, List.take_zero, List.drop_succ_cons, List.drop_zero]
            iterate 9 still_step
            still_call (HSK.out _)
            iterate 2 still_step
            refine wpStill_nil ?_
            go_upto_region 13 with (fail)
            refine goOn (S := fun W => LnAt W X s (skipP s.data.toList m) true m 8 (.slice a1 acc.length c1') (.slice a2 acc.length c2') ∧ Kept (fun k => k = X) w W) ⟨HLB.out _ _ HL.out, HK.out.two (((Kept.refl _ WD).drewN 1).two (keptX _ X 1 _))⟩ ?_
            clear HL HK HSK HLB c0 c1 c2 c3 c4 c5 c6 f1 f2 f3 f4 f5 f6
            rintro WE ⟨hl, hk⟩
            have HL : Hid (LnAt WE X s (skipP s.data.toList m) true m 8 (.slice a1 acc.length c1') (.slice a2 acc.length c2')) := hl
            obtain ⟨c0, c1, c2, c3, c4, c5, c6, f1, f2, f3, f4, f5, f6⟩ := hl.x
            have HK : Hid (Kept (fun k => k = X) w WE) := hk
            clear hl hk
            go_wp2_with (go_at_call 45; refine (HVB.out _ _ HL.out).mono ?_; clear HVB; rintro en w2 ⟨⟨t, rfl⟩, hw⟩; have hw := hw.symm; subst hw)
            refine bodyPost_ret (results_none rfl _ _ _) rfl ?_
            rw [HRE.out]
            exact ⟨⟨_, rfl⟩, HK.out, _, _, _, HL.out⟩
    · obtain ⟨c0, c1, c2, c3, c4, c5, c6, f1, f2, f3, f4, f5, f6⟩ := HL.out.x
      go_wp2
      go_end0
      refine ⟨⟨_, rfl⟩, HK.out, ?_⟩
      rw [HR.out]
      exact ⟨_, _, _, HL.out⟩
end Go.Proofs.YtfckdleahljdeaaGreatDoor
