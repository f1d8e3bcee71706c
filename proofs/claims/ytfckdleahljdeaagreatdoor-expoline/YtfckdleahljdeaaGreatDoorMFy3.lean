/- The document's quoted value. -/
import Derived.Test.YtfckdleahljdeaaGreatDoorMFy2
import Derived.Test.YtfckdleahljdeaaGreatDoorMEx6
import Derived.Test.YtfckdleahljdeaaGreatDoorMFz5
import Derived.Test.YtfckdleahljdeaaGreatDoorML1
import Derived.Deep.RegionLaw
namespace Go.Proofs.YtfckdleahljdeaaGreatDoor
open Go.RowKit Go.Maps

theorem run_append_bytes (w : World) (ty : TypeId) (base : Nat) (v : Value) (n : Nat) (xs : List Value) (hown : w.ownsRow base 5 1 v n xs) (xv : Value) (nw : List UInt8) (hb : BytesAt w xv nw) (hl : n + nw.length ≤ 1000000000) (hbase : base ≤ w.heap.size) :
    ∃ v' w', (Builtin.append_ #[23, 23] ty #[v, xv]).run Tryz.prog w = .ok v' w' ∧ w'.ownsRow base 5 1 v' (n + nw.length) (xs ++ byteVals nw) ∧ w.grownBy w' v.ownBlock ∧ (v'.ownBlock = v.ownBlock ∨ v'.ownBlock = some w.heap.size) := by
  obtain ⟨i0, hi0, hz0, hz1, hz2⟩ := info_parts infoU8
  obtain ⟨ax, c, rfl, hlc, hn, hc⟩ := id hb
  cases ax with
  | none =>
    obtain ⟨rfl, rfl⟩ := hn rfl
    exact ⟨v, w, run_append_owned_none (P := Tryz.prog) (w := w) base 23 ty 5 i0 1 Tryz.underlying23 hi0 v n xs hown, by simpa [byteVals] using hown, ⟨rfl, rfl, rfl, Nat.le_refl _, fun _ _ _ => rfl⟩, Or.inl rfl⟩
  | some ad =>
    obtain ⟨v', w', hr, h2, h3, _, h5⟩ := run_append_own_at (P := Tryz.prog) w base 23 ty 5 i0 (.int .u8 0) 1 1 Tryz.underlying23 hi0 hz0 hz1 hz2 rfl (by decide) v n xs hown ad nw.length c (byteVals nw) (by rw [byteVals_length]; omega) hb.cells (byteVals_one nw) (by unfold maxLen; omega) (by omega) hbase
    exact ⟨v', w', hr, h2, h3, h5⟩
theorem step_append_bytes (w : World) {ops : Array Oper} {o : Oper} {a : Act} {K : Act → World → Prop} {Q : Exit → Act → World → Prop} {E : Prop} (hgd : o.guard = none) (s x : Operand)
    (ho : o.op = .call { callee := .builtin .append, args := #[s, x], argTypes := #[23, 23] }) (base : Nat) (v : Value) (n : Nat) (xs : List Value) (hs : a.eval s = v) (hown : w.ownsRow base 5 1 v n xs)
    (xv : Value) (nw : List UInt8) (hx : a.eval x = xv) (hb : BytesAt w xv nw) (hl : n + nw.length ≤ 1000000000) (hbase : base ≤ w.heap.size)
    (h : ∀ c d w', w'.ownsRow base 5 1 (.slice c (n + nw.length) d) (n + nw.length) (xs ++ byteVals nw) → w.grownBy w' v.ownBlock → ((Value.slice c (n + nw.length) d).ownBlock = v.ownBlock ∨ (Value.slice c (n + nw.length) d).ownBlock = some w.heap.size) → K (a.put o.dst (.slice c (n + nw.length) d)) w') :
    if Region.wanted o (yielded ops a.tmps) = true then Oper.wp Tryz.prog o a w K Q else E := by
  have hw : Region.wanted o (yielded ops a.tmps) = true := by simp [Region.wanted, hgd]
  rw [if_pos hw]
  obtain ⟨v', w', hr, h2, h3, h4⟩ := run_append_bytes w o.type base v n xs hown xv nw hb hl hbase
  obtain ⟨c, d, rfl⟩ := slice_of_row h2
  unfold Oper.wp execOp
  simp only [ho, resolve, invoke, builtin, Sem.run_bind, Sem.run_pure, Result.andThen_ok, List.map_toArray, List.map_cons, List.map_nil, hs, hx, hr]
  exact h c d w' h2 h3 h4


theorem newAt (W : World) (o : Obj) {m : Nat} (h : W.heap.size = m) : (W.alloc o).heap[m]? = some o := by
  subst h
  exact heap_alloc_new W o
theorem one_at {w : World} {g : Nat} {x : Int} {b0 : UInt8} (h : w.heap[g]? = some (.cells #[.int .u8 x] 5)) (h0 : x = b0.toNat) : BytesAt w (.slice (some ⟨g, 0, none⟩) 1 1) [b0] := by
  subst h0
  exact BytesAt.of_row (base := 0) (bs := [b0]) ⟨rfl, Or.inr ⟨g, 1, _, rfl, Nat.zero_le _, h, Nat.le_refl _, by decide, rfl, rfl⟩⟩
/-- A value under way: at a place, or refused. -/
def VS (W : World) (X : Nat) (s : ByteArray) (q : Nat) (e : Int) (nm vl : Value) (R : Nat ⊕ (List UInt8 × Nat)) (acc : List UInt8) : Prop :=
  (∃ j, j ≤ s.size ∧ acc.length ≤ j ∧ LnAt W X s j false q e nm vl ∧ quotP (s.data.toList.drop j) j acc = R) ∨ (∃ j z, R = .inl z ∧ LnAt W X s j true z 8 nm vl)
def vM (X : Nat) (s : ByteArray) (W : World) : Nat := match W.cell? ⟨X, 2, none⟩, W.cell? ⟨X, 1, none⟩ with
  | some (.bool false), some (.int _ n) => s.size + 1 - n.toNat
  | _, _ => 0
theorem vM_run {W : World} {X : Nat} {s : ByteArray} {p q : Nat} {e : Int} {nm vl : Value} (h : LnAt W X s p false q e nm vl) : vM X s W = s.size + 1 - p := by
  unfold vM
  rw [h.x.c2, h.x.c1]
  rfl
theorem vM_bad {W : World} {X : Nat} {s : ByteArray} {p q : Nat} {e : Int} {nm vl : Value} (h : LnAt W X s p true q e nm vl) : vM X s W = 0 := by
  unfold vM
  rw [h.x.c2]
/-- What is answered of a value that begins at a place. -/
def ValP (w : World) (X : Nat) (s : ByteArray) (p q : Nat) (e : Int) (nm vl : Value) (R : Nat ⊕ (List UInt8 × Nat)) (en : Ending) (w' : World) : Prop :=
  Kept (fun k => k = X) w w' ∧ match R with
  | .inl z => (∃ t, en = .returned (.string t)) ∧ ∃ j, LnAt w' X s j true z 8 nm vl
  | .inr (v, z) => if Lib.validD v = true then en = .returned (.string ⟨v.toArray⟩) ∧ LnAt w' X s z false q e nm vl else (∃ t, en = .returned (.string t)) ∧ ∃ j, LnAt w' X s j true p 8 nm vl
def valR (s : ByteArray) (p : Nat) : Nat ⊕ (List UInt8 × Nat) := if s.data.toList[p]? = some 34 then quotP (s.data.toList.drop (p + 1)) (p + 1) [] else .inl p
theorem row_str {w : World} {base : Nat} {a : Option Addr} {n c : Nat} {bs : List UInt8} (h : w.ownsRow base 5 1 (.slice a n c) bs.length (byteVals bs)) : (convert 23 9 (.slice a n c)).run Tryz.prog w = .ok (.string ⟨bs.toArray⟩) w := (BytesAt.of_row h).str

set_option maxRecDepth 100000 in
set_option maxHeartbeats 1000000 in
theorem refValue_bad (X : Nat) (s : ByteArray) (p q : Nat) (e : Int) (nm vl : Value) (w : World) (h : LnAt w X s p true q e nm vl) : Calls Tryz.prog 45 #[.pointer (some ⟨X, 0, none⟩)] w fun en w' => (∃ t, en = .returned (.string t)) ∧ w' = w := by
  obtain ⟨c0, c1, c2, c3, c4, c5, c6, f1, f2, f3, f4, f5, f6⟩ := h.x
  have HE := refEat_bad X s p q e nm vl 34 w h
  have hcv := (BytesAt.nil (w := w)).str
  clear h
  go_enter Tryz.func45, Tryz.ntmps45
  go_wp2_with (go_at_call 44; refine HE.mono ?_; clear HE; rintro e w1 ⟨⟨v, rfl⟩, hw⟩; have hw := hw.symm; subst hw)
  go_loopw [4] (fun ov wr => ov = .slice none 0 0 ∧ wr = w) (fun _ _ => 0)
  case atStart => exact ⟨rfl, rfl⟩
  case round =>
    obtain ⟨rfl, hw⟩ := hrel
    have hw := hw.symm
    subst hw
    go_wp2
    go_ret
    exact ⟨⟨_, rfl⟩, rfl⟩

set_option maxRecDepth 100000 in
set_option maxHeartbeats 6000000 in
theorem refValue_any (X : Nat) (s : ByteArray) (p q : Nat) (e : Int) (nm vl : Value) (w : World) (h : LnAt w X s p false q e nm vl) (hp : p ≤ s.size) (hs : s.size ≤ 4000) (h10 : ∀ k (hk : k < s.size), s[k] ≠ 10) : Calls Tryz.prog 45 #[.pointer (some ⟨X, 0, none⟩)] w fun en w' => ValP w X s p q e nm vl (valR s p) en w' := by
  obtain ⟨c0, c1, c2, c3, c4, c5, c6, f1, f2, f3, f4, f5, f6⟩ := h.x
  have HX : Hid (X < w.heap.size) := h.lt
  obtain ⟨R, hR⟩ : ∃ R, R = valR s p := ⟨_, rfl⟩
  rw [← hR]
  have HE : Hid (Calls Tryz.prog 44 #[.pointer (some ⟨X, 0, none⟩), .int .u8 34] w fun en w' => (∃ v, en = .returned v) ∧ VS w' X s q e nm vl R [] ∧ Kept (fun k => k = X) w w') := (refEat_any X s p q e nm vl 34 w h hp (by omega)).mono (by
    rintro en w' ⟨hv, hl, hk⟩
    refine ⟨hv, ?_, hk⟩
    unfold valR at hR
    rcases hl with ⟨h34, hl⟩ | ⟨h34, hl⟩
    · rw [if_pos h34] at hR
      exact .inl ⟨p + 1, by have := some_lt h34; omega, Nat.zero_le _, hl, hR.symm⟩
    · rw [if_neg h34] at hR
      exact .inr ⟨p, p, hR, hl⟩)
  have H10 : Hid (∀ k (hk : k < s.size), s[k] ≠ 10) := h10
  clear h hR h10
  go_enter Tryz.func45, Tryz.ntmps45
  go_wp2_with (go_at_call 44; refine HE.out.mono ?_; clear HE c0 c1 c2 c3 c4 c5 c6 f1 f2 f3 f4 f5 f6; rintro en w1 ⟨⟨v, rfl⟩, hl, hk⟩; have HS0 : Hid (VS w1 X s q e nm vl R []) := hl; have HK0 : Hid (Kept (fun k => k = X) w w1) := hk; clear hl hk)
  go_loopw [4] (fun ov wr => ∃ (acc : List UInt8) (a : Option Addr) (c : Nat), ov = .slice a acc.length c ∧ acc.length ≤ 4000 ∧ Hid (wr.ownsRow w.heap.size 5 1 (.slice a acc.length c) acc.length (byteVals acc)) ∧ Hid (VS wr X s q e nm vl R acc) ∧ Hid (Kept (fun k => k = X) w wr)) (fun _ wr => vM X s wr)
  case atStart => exact ⟨[], none, 0, rfl, Nat.zero_le _, World.ownsRow_nil _ _ _ _, HS0, HK0⟩
  case round =>
    clear HS0 HK0
    obtain ⟨acc, a, c, rfl, hacc, HROW, HVS, HK⟩ := hrel
    have hcv := row_str HROW.out
    have hsz : w.heap.size ≤ wr.heap.size := HK.out.size
    rcases HVS.out with ⟨j, hj, haj, hl, hq⟩ | ⟨j, z, rfl, hl⟩
    · have HL : Hid (LnAt wr X s j false q e nm vl) := hl
      obtain ⟨c0, c1, c2, c3, c4, c5, c6, f1, f2, f3, f4, f5, f6⟩ := hl.x
      have HQ : Hid (quotP (s.data.toList.drop j) j acc = R) := hq
      clear hl hq HVS
      have HN : Hid (∀ W j, LnAt W X s j false q e nm vl → Calls Tryz.prog 43 #[.pointer (some ⟨X, 0, none⟩), .int .i64 j, .int .i64 8] W fun en w' => (∃ v, en = .returned v) ∧ LnAt w' X s j true j 8 nm vl ∧ Kept (fun k => k = X) W w') := fun W j hW => refNo_any X s j q e 8 nm vl j W hW
      have HRK : Hid (∀ W, Kept (fun k => k = X) wr W → W.ownsRow w.heap.size 5 1 (.slice a acc.length c) acc.length (byteVals acc)) := fun W hk => hk.ownsRow HROW.out (fun k hk1 e => by have := row_lo HROW.out k hk1; have := HX.out; omega)
      by_cases hlt : j < s.size
      · have hbl : s[j].toNat < 256 := s[j].toNat_lt
        have n10 : ((s[j].toNat : Int) == 10) = false := by
          have h9 : ((s[j].toNat : Int) == ((10 : UInt8).toNat : Int)) = (s[j] == 10) := u8_eq
          have h8 : (s[j] == 10) = false := by simpa using H10.out j hlt
          rw [h8] at h9
          exact h9
        have HL1 : Hid (∀ n v, v = Value.int .i64 ((j + 1 : Nat) : Int) → LnAt ((wr.drewN n).setCell ⟨X, 1, none⟩ v) X s (j + 1) false q e nm vl) := fun n v hv => (HL.out.drewN n).set1 (j + 1) hv
        have HK1 : Hid (∀ n v, Kept (fun k => k = X) wr ((wr.drewN n).setCell ⟨X, 1, none⟩ v)) := fun n v => ((Kept.refl _ wr).drewN n).two (keptX _ X 1 _)
        have hcvn : ∀ n v, (convert 23 9 (.slice a acc.length c)).run Tryz.prog ((wr.drewN n).setCell ⟨X, 1, none⟩ v) = .ok (.string ⟨acc.toArray⟩) ((wr.drewN n).setCell ⟨X, 1, none⟩ v) := fun n v => row_str (HRK.out _ (HK1.out n v))
        by_cases h34 : s[j] = 34
        · have hR := quot_close acc hlt h34
          rw [HQ.out] at hR
          subst hR
          have m34 : (s[j].toNat : Int) = 34 := by rw [h34]; rfl
          clear HQ h34
          go_wp2
          go_quiet (fail)
          go_wp2
          go_quiet (fail)
          cases hv : Lib.validD acc with
          | true =>
            have HV : Hid (∀ W, Calls Tryz.prog 69 #[.string ⟨acc.toArray⟩] W fun en w' => en = .returned (.bool true) ∧ w' = W) := fun W => by
              have h9 := valid_any ⟨acc.toArray⟩ W (by show acc.toArray.size ≤ _; rw [List.size_toArray]; omega)
              rw [show (⟨acc.toArray⟩ : ByteArray).data.toList = acc by simp, hv] at h9
              exact h9
            have HVB : Hid (Lib.validD acc = true) := hv
            clear hv
            go_wp2_with (go_at_call 69; refine (HV.out _).mono ?_; clear HV; rintro en w2 ⟨rfl, hw⟩; have hw := hw.symm; subst hw)
            go_ret
            refine ⟨HK.out.two (HK1.out _ _), ?_⟩
            dsimp only
            rw [if_pos HVB.out]
            exact ⟨rfl, HL1.out _ _ (by go_num)⟩
          | false =>
            have HV : Hid (∀ W, Calls Tryz.prog 69 #[.string ⟨acc.toArray⟩] W fun en w' => en = .returned (.bool false) ∧ w' = W) := fun W => by
              have h9 := valid_any ⟨acc.toArray⟩ W (by show acc.toArray.size ≤ _; rw [List.size_toArray]; omega)
              rw [show (⟨acc.toArray⟩ : ByteArray).data.toList = acc by simp, hv] at h9
              exact h9
            have HVB : Hid (¬ Lib.validD acc = true) := by show ¬ _; rw [hv]; decide
            have HNP : Hid (∀ W j, LnAt W X s j false q e nm vl → Calls Tryz.prog 43 #[.pointer (some ⟨X, 0, none⟩), .int .i64 p, .int .i64 8] W fun en w' => (∃ v, en = .returned v) ∧ LnAt w' X s j true p 8 nm vl ∧ Kept (fun k => k = X) W w') := fun W j hW => refNo_any X s j q e 8 nm vl p W hW
            clear hv HN
            go_wp2_with (first
              | (go_at_call 69; refine (HV.out _).mono ?_; clear HV; rintro en w2 ⟨rfl, hw⟩; have hw := hw.symm; subst hw)
              | (go_at_call 43; refine (HNP.out _ _ (HL1.out _ _ (by go_num))).mono ?_; clear HNP; rintro en w3 ⟨⟨v, rfl⟩, hl, hk⟩; have HL3 : Hid (∃ j, LnAt w3 X s j true p 8 nm vl) := ⟨_, hl⟩; have HK3 : Hid (Kept (fun k => k = X) wr w3) := (HK1.out _ _).two hk; have hcv3 := row_str (HRK.out _ HK3.out); clear hl hk))
            go_ret
            refine ⟨HK.out.two HK3.out, ?_⟩
            dsimp only
            rw [if_neg HVB.out]
            exact ⟨⟨_, rfl⟩, HL3.out⟩
        · have n34 : ((s[j].toNat : Int) == 34) = false := by
            have h9 : ((s[j].toNat : Int) == ((34 : UInt8).toNat : Int)) = (s[j] == 34) := u8_eq
            have h8 : (s[j] == 34) = false := by simpa using h34
            rw [h8] at h9
            exact h9
          have HRA : Hid (∀ W o, Kept (fun k => k = X) wr W → (W.alloc o).ownsRow w.heap.size 5 1 (.slice a acc.length c) acc.length (byteVals acc)) := fun W o hk => (HRK.out W hk).alloc o
          have HNX : Hid (∀ W o w3, Kept (fun k => k = X) wr W → (W.alloc o).grownBy w3 (Value.slice a acc.length c).ownBlock → Below w.heap.size W w3) := fun W o w3 hk hg => ((Below.refl w.heap.size W).alloc (Nat.le_trans hsz hk.size) o).grown hg (by have := hk.size; simp; omega) (fun k hk1 => (HROW.out.lt k hk1).1)
          have HKW : Hid (∀ W w3, Kept (fun k => k = X) wr W → Below w.heap.size W w3 → Kept (fun k => k = X) w w3) := fun W w3 hk hb => (HK.out.two hk).belowB hb (Nat.le_refl _)
          by_cases h92 : s[j] = 92
          · have m92 : (s[j].toNat : Int) = 92 := by rw [h92]; rfl
            have HL2 : Hid (∀ n v m, v = Value.int .i64 ((j + 1 : Nat) : Int) → LnAt (((wr.drewN n).setCell ⟨X, 1, none⟩ v).drewN m) X s (j + 1) false q e nm vl) := fun n v m hv => (HL1.out n v hv).drewN m
            have HK2 : Hid (∀ n v m, Kept (fun k => k = X) wr (((wr.drewN n).setCell ⟨X, 1, none⟩ v).drewN m)) := fun n v m => (HK1.out n v).two ((Kept.refl _ _).drewN m)
            by_cases hn : j + 1 = s.size
            · have hR := quot_bs acc hlt h92 hn
              rw [HQ.out] at hR
              subst hR
              clear HQ h34 h92
              go_wp2
              go_quiet (fail)
              go_wp2
              go_quiet (fail)
              go_wp2
              go_quiet (fail)
              go_wp2_with (go_at_call 43; refine (HN.out _ (j + 1) (HL2.out _ _ _ (by go_num))).mono ?_; clear HN; rintro en w2 ⟨⟨v, rfl⟩, hl, hk⟩; have HL3 : Hid (LnAt w2 X s (j + 1) true (j + 1) 8 nm vl) := hl; have HK3 : Hid (Kept (fun k => k = X) wr w2) := (HK2.out _ _ _).two hk; have c22 := hl.x.c2; have hcv2 := row_str (HRK.out _ HK3.out); clear hl hk)
              go_ret
              exact ⟨HK.out.two HK3.out, ⟨_, rfl⟩, _, HL3.out⟩
            · have hn2 : j + 1 < s.size := by omega
              obtain ⟨k, hk2, hkI⟩ : ∃ k : Nat, k = j + 1 ∧ (j : Int) + 1 = k := ⟨j + 1, rfl, by omega⟩
              have hks : k < s.size := by omega
              have hsk : s[k] = s[j + 1] := by subst hk2; rfl
              have hdl : s[k].toNat < 256 := s[k].toNat_lt
              have HLK : Hid (∀ n m, LnAt (((wr.drewN n).setCell ⟨X, 1, none⟩ (.int .i64 k)).drewN m) X s k false q e nm vl) := fun n m => by
                have h9 := HL2.out n (.int .i64 k) m (by rw [hk2])
                rw [← hk2] at h9
                exact h9
              cases hx : escF s[j + 1] with
              | none =>
                have hR := quot_bad acc hlt h92 hn2 hx
                rw [HQ.out] at hR
                subst hR
                obtain ⟨e92, e34, e110⟩ : ((s[k].toNat : Int) == 92) = false ∧ ((s[k].toNat : Int) == 34) = false ∧ ((s[k].toNat : Int) == 110) = false := by
                  rw [← hsk] at hx
                  unfold escF at hx
                  have g1 : ((s[k].toNat : Int) == ((92 : UInt8).toNat : Int)) = (s[k] == 92) := u8_eq
                  have g2 : ((s[k].toNat : Int) == ((34 : UInt8).toNat : Int)) = (s[k] == 34) := u8_eq
                  have g3 : ((s[k].toNat : Int) == ((110 : UInt8).toNat : Int)) = (s[k] == 110) := u8_eq
                  by_cases c1 : s[k] = 92 ∨ s[k] = 34
                  · rw [if_pos c1] at hx; cases hx
                  · rw [if_neg c1] at hx
                    by_cases c2 : s[k] = 110
                    · rw [if_pos c2] at hx; cases hx
                    · have d1 : (s[k] == 92) = false := by simpa using fun h => c1 (Or.inl h)
                      have d2 : (s[k] == 34) = false := by simpa using fun h => c1 (Or.inr h)
                      have d3 : (s[k] == 110) = false := by simpa using c2
                      rw [d1] at g1; rw [d2] at g2; rw [d3] at g3
                      exact ⟨g1, g2, g3⟩
                have HK2E : Hid (k = j + 1) := hk2
                clear HQ h34 h92 hx hn hsk hn2 hk2
                go_wp2
                go_quiet (fail)
                go_wp2
                go_quiet (fail)
                go_wp2
                go_quiet (fail)
                go_wp2
                go_quiet (fail)
                go_wp2_with (go_at_call 43; refine (HN.out _ k (HLK.out _ _)).mono ?_; clear HN; rintro en w2 ⟨⟨v, rfl⟩, hl, hk⟩; have HL3 : Hid (LnAt w2 X s k true k 8 nm vl) := hl; have HK3 : Hid (Kept (fun k => k = X) wr w2) := (HK2.out _ _ _).two hk; obtain ⟨z0, z1, z2, z3, z4, z5, z6, y1, y2, y3, y4, y5, y6⟩ := hl.x; clear hl hk)
                have HL4 : Hid (∀ v, v = Value.int .i64 ((k + 1 : Nat) : Int) → LnAt (w2.setCell ⟨X, 1, none⟩ v) X s (k + 1) true k 8 nm vl) := fun v hv => HL3.out.set1 (k + 1) hv
                have HK4 : Hid (∀ v, Kept (fun k => k = X) wr (w2.setCell ⟨X, 1, none⟩ v)) := fun v => HK3.out.two (keptX _ X 1 v)
                go_roundw
                case rel => exact ⟨acc, a, c, rfl, hacc, HRK.out _ (HK4.out _), .inr ⟨k + 1, k, by rw [HK2E.out], HL4.out _ (by go_num)⟩, HK.out.two (HK4.out _)⟩
                case measure => rw [vM_run HL.out, vM_bad (HL4.out _ (by go_num))]; omega
              | some d =>
                have HR2 : Hid (quotP (s.data.toList.drop (k + 1)) (k + 1) (acc ++ [d]) = R) := by
                  have h9 := (quot_esc acc hlt h92 hn2 hx).trans HQ.out
                  rw [hk2]
                  exact h9
                have HKD : Hid (∀ n v m, Kept (fun k => k = X) wr (((wr.drewN n).setCell ⟨X, 1, none⟩ v).drewN m).drew) := fun n v m => (HK2.out n v m).two ((Kept.refl _ _).drewN 1)
                have HLD : Hid (∀ n m, LnAt (((wr.drewN n).setCell ⟨X, 1, none⟩ (.int .i64 k)).drewN m).drew X s k false q e nm vl) := fun n m => (HLK.out n m).drewN 1
                have hx2 : (s[k].toNat = 92 ∧ s[k] = d) ∨ (s[k].toNat = 34 ∧ s[k] = d) ∨ (s[k].toNat = 110 ∧ d = 10) := by
                  rw [← hsk] at hx
                  unfold escF at hx
                  by_cases c1 : s[k] = 92 ∨ s[k] = 34
                  · rw [if_pos c1] at hx
                    rcases c1 with c1 | c1
                    · exact .inl ⟨by rw [c1]; rfl, Option.some.inj hx⟩
                    · exact .inr (.inl ⟨by rw [c1]; rfl, Option.some.inj hx⟩)
                  · rw [if_neg c1] at hx
                    by_cases c2 : s[k] = 110
                    · rw [if_pos c2] at hx
                      exact .inr (.inr ⟨by rw [c2]; rfl, (Option.some.inj hx).symm⟩)
                    · rw [if_neg c2] at hx; cases hx
                have HK2E : Hid (k = j + 1) := hk2
                clear HQ h34 h92 hx hn hsk hn2 HN hcvn hk2
                rcases hx2 with ⟨m2, hd⟩ | ⟨m2, hd⟩ | ⟨m2, rfl⟩
                · have HD : Hid (d.toNat = 92) := by show _ = _; rw [← hd]; exact m2
                  have m3 : (s[k].toNat : Int) = 92 := by omega
                  clear hd m2
                  go_wp2
                  go_quiet (fail)
                  go_wp2
                  go_quiet (fail)
                  go_wp2
                  go_quiet (fail)
                  go_wp2
                  go_quiet (fail)
                  go_wp2
                  go_region_law (first | (refine step_append_bytes _ (by rfl) _ _ (by rfl) w.heap.size _ acc.length (byteVals acc) (by rfl) (HRA.out _ _ (by first | exact HK2.out _ _ _ | exact HKD.out _ _ _)) _ [d] (by rfl) (one_at (newAt _ _ (by simp)) (by have h9 := HD.out; omega)) (by simp; omega) (by simp; omega) ?_; intro c2 d2 w3 hr3 hg3 hloc3; clear hloc3; have hb3 := HNX.out _ _ _ (by first | exact HK2.out _ _ _ | exact HKD.out _ _ _) hg3; have HK3 : Hid (Kept (fun k => k = X) w w3) := HKW.out _ _ (by first | exact HK2.out _ _ _ | exact HKD.out _ _ _) hb3; have HL3 : Hid (LnAt w3 X s k false q e nm vl) := LnAt.below (by first | exact HLK.out _ _ | exact HLD.out _ _) hb3 HX.out; have HR3 : Hid (w3.ownsRow w.heap.size 5 1 (.slice c2 (acc.length + 1) d2) (acc.length + 1) (byteVals acc ++ byteVals [d])) := hr3; obtain ⟨z0, z1, z2, z3, z4, z5, z6, y1, y2, y3, y4, y5, y6⟩ := HL3.out.x; clear hr3 hg3 hb3))
                  all_goals
                    go_wp2
                    have HL4 : Hid (∀ v, v = Value.int .i64 ((k + 1 : Nat) : Int) → LnAt (w3.setCell ⟨X, 1, none⟩ v) X s (k + 1) false q e nm vl) := fun v hv => HL3.out.set1 (k + 1) hv
                    have HK4 : Hid (∀ v, Kept (fun k => k = X) w3 (w3.setCell ⟨X, 1, none⟩ v)) := fun v => keptX _ X 1 v
                    go_roundw
                    case rel => exact ⟨acc ++ [d], c2, d2, by simp, by simp; omega, (HK4.out _).ownsRow (by rw [List.length_append, List.length_singleton, byteVals_append]; exact HR3.out) (fun k hk1 e => by have := row_lo HR3.out k (by simpa using hk1); have := HX.out; omega), .inl ⟨k + 1, by omega, by simp; omega, HL4.out _ (by go_num), HR2.out⟩, HK3.out.two (HK4.out _)⟩
                    case measure => rw [vM_run HL.out, vM_run (HL4.out _ (by go_num))]; omega
                · have HD : Hid (d.toNat = 34) := by show _ = _; rw [← hd]; exact m2
                  have m3 : (s[k].toNat : Int) = 34 := by omega
                  clear hd m2
                  go_wp2
                  go_quiet (fail)
                  go_wp2
                  go_quiet (fail)
                  go_wp2
                  go_quiet (fail)
                  go_wp2
                  go_quiet (fail)
                  go_wp2
                  go_region_law (first | (refine step_append_bytes _ (by rfl) _ _ (by rfl) w.heap.size _ acc.length (byteVals acc) (by rfl) (HRA.out _ _ (by first | exact HK2.out _ _ _ | exact HKD.out _ _ _)) _ [d] (by rfl) (one_at (newAt _ _ (by simp)) (by have h9 := HD.out; omega)) (by simp; omega) (by simp; omega) ?_; intro c2 d2 w3 hr3 hg3 hloc3; clear hloc3; have hb3 := HNX.out _ _ _ (by first | exact HK2.out _ _ _ | exact HKD.out _ _ _) hg3; have HK3 : Hid (Kept (fun k => k = X) w w3) := HKW.out _ _ (by first | exact HK2.out _ _ _ | exact HKD.out _ _ _) hb3; have HL3 : Hid (LnAt w3 X s k false q e nm vl) := LnAt.below (by first | exact HLK.out _ _ | exact HLD.out _ _) hb3 HX.out; have HR3 : Hid (w3.ownsRow w.heap.size 5 1 (.slice c2 (acc.length + 1) d2) (acc.length + 1) (byteVals acc ++ byteVals [d])) := hr3; obtain ⟨z0, z1, z2, z3, z4, z5, z6, y1, y2, y3, y4, y5, y6⟩ := HL3.out.x; clear hr3 hg3 hb3))
                  all_goals
                    go_wp2
                    have HL4 : Hid (∀ v, v = Value.int .i64 ((k + 1 : Nat) : Int) → LnAt (w3.setCell ⟨X, 1, none⟩ v) X s (k + 1) false q e nm vl) := fun v hv => HL3.out.set1 (k + 1) hv
                    have HK4 : Hid (∀ v, Kept (fun k => k = X) w3 (w3.setCell ⟨X, 1, none⟩ v)) := fun v => keptX _ X 1 v
                    go_roundw
                    case rel => exact ⟨acc ++ [d], c2, d2, by simp, by simp; omega, (HK4.out _).ownsRow (by rw [List.length_append, List.length_singleton, byteVals_append]; exact HR3.out) (fun k hk1 e => by have := row_lo HR3.out k (by simpa using hk1); have := HX.out; omega), .inl ⟨k + 1, by omega, by simp; omega, HL4.out _ (by go_num), HR2.out⟩, HK3.out.two (HK4.out _)⟩
                    case measure => rw [vM_run HL.out, vM_run (HL4.out _ (by go_num))]; omega
                · have m3 : (s[k].toNat : Int) = 110 := by omega
                  clear m2
                  go_wp2
                  go_quiet (fail)
                  go_wp2
                  go_quiet (fail)
                  go_wp2
                  go_quiet (fail)
                  go_wp2
                  go_quiet (fail)
                  go_wp2_with (at_builtin; refine wpList_append_bytes _ rfl _ _ rfl w.heap.size (.slice a acc.length c) acc.length (byteVals acc) rfl (HRA.out _ _ (by first | exact HK2.out _ _ _ | exact HKD.out _ _ _)) _ [10] rfl (one_at (newAt _ _ (by simp)) rfl) (by simp; omega) (by simp; omega) ?_; intro v3 w3 hr3 hg3 _; obtain ⟨c2, d2, rfl⟩ := slice_of_row hr3; have hb3 := HNX.out _ _ _ (by first | exact HK2.out _ _ _ | exact HKD.out _ _ _) hg3; have HK3 : Hid (Kept (fun k => k = X) w w3) := HKW.out _ _ (by first | exact HK2.out _ _ _ | exact HKD.out _ _ _) hb3; have HL3 : Hid (LnAt w3 X s k false q e nm vl) := LnAt.below (by first | exact HLK.out _ _ | exact HLD.out _ _) hb3 HX.out; have HR3 : Hid (w3.ownsRow w.heap.size 5 1 (.slice c2 (acc.length + 1) d2) (acc.length + 1) (byteVals acc ++ byteVals [10])) := hr3; obtain ⟨z0, z1, z2, z3, z4, z5, z6, y1, y2, y3, y4, y5, y6⟩ := HL3.out.x; clear hr3 hg3 hb3)
                  have HL4 : Hid (∀ v, v = Value.int .i64 ((k + 1 : Nat) : Int) → LnAt (w3.setCell ⟨X, 1, none⟩ v) X s (k + 1) false q e nm vl) := fun v hv => HL3.out.set1 (k + 1) hv
                  have HK4 : Hid (∀ v, Kept (fun k => k = X) w3 (w3.setCell ⟨X, 1, none⟩ v)) := fun v => keptX _ X 1 v
                  go_roundw
                  case rel => exact ⟨acc ++ [10], c2, d2, by simp, by simp; omega, (HK4.out _).ownsRow (by rw [List.length_append, List.length_singleton, byteVals_append]; exact HR3.out) (fun k hk1 e => by have := row_lo HR3.out k (by simpa using hk1); have := HX.out; omega), .inl ⟨k + 1, by omega, by simp; omega, HL4.out _ (by go_num), HR2.out⟩, HK3.out.two (HK4.out _)⟩
                  case measure => rw [vM_run HL.out, vM_run (HL4.out _ (by go_num))]; omega
          · have n92 : ((s[j].toNat : Int) != 92) = true := by
              have h9 : ((s[j].toNat : Int) == ((92 : UInt8).toNat : Int)) = (s[j] == 92) := u8_eq
              have h8 : (s[j] == 92) = false := by simpa using h92
              rw [h8] at h9
              have h7 : ((s[j].toNat : Int) == 92) = false := h9
              simpa using h7
            have HR2 : Hid (quotP (s.data.toList.drop (j + 1)) (j + 1) (acc ++ [s[j]]) = R) := (quot_byte acc hlt h34 h92).trans HQ.out
            clear HQ h34 h92 HN hcvn
            go_wp2
            go_quiet (fail)
            go_wp2
            go_quiet (fail)
            go_wp2_with (at_builtin; refine wpList_append_bytes _ rfl _ _ rfl w.heap.size (.slice a acc.length c) acc.length (byteVals acc) rfl (HRA.out _ _ (HK1.out _ _)) _ [s[j]] rfl (one_at (newAt _ _ (by simp)) rfl) (by simp; omega) (by simp; omega) ?_; intro v3 w3 hr3 hg3 _; have hb3 := HNX.out _ _ _ (HK1.out _ _) hg3; have HK3 : Hid (Kept (fun k => k = X) w w3) := HKW.out _ _ (HK1.out _ _) hb3; have HL3 : Hid (LnAt w3 X s (j + 1) false q e nm vl) := (HL1.out _ _ (by go_num)).below hb3 HX.out; obtain ⟨a3, c3', rfl⟩ := slice_of_row hr3; have HR3 : Hid (w3.ownsRow w.heap.size 5 1 (.slice a3 (acc.length + 1) c3') (acc.length + 1) (byteVals acc ++ byteVals [s[j]])) := hr3; clear hr3 hg3 hb3)
            go_roundw
            case rel => exact ⟨acc ++ [s[j]], a3, c3', by simp, by simp; omega, by rw [List.length_append, List.length_singleton, byteVals_append]; exact HR3, .inl ⟨j + 1, by omega, by simp; omega, HL3.out, HR2.out⟩, HK3⟩
            case measure => rw [vM_run HL.out, vM_run HL3.out]; omega
      · have hR := quot_end acc (show j = s.size by omega)
        rw [HQ.out] at hR
        subst hR
        clear HQ
        go_wp2
        go_quiet (fail)
        go_wp2_with (go_at_call 43; refine (HN.out _ _ (HL.out.drewN _)).mono ?_; clear HN; rintro en w2 ⟨⟨v, rfl⟩, hl, hk⟩; have HL2 : Hid (LnAt w2 X s j true j 8 nm vl) := hl; have HK2 : Hid (Kept (fun k => k = X) wr w2) := ((Kept.refl _ wr).drewN _).two hk; have c22 := hl.x.c2; have hcv2 := row_str (HRK.out _ HK2.out); clear hl hk)
        go_ret
        exact ⟨HK.out.two HK2.out, ⟨_, rfl⟩, _, HL2.out⟩
    · obtain ⟨c0, c1, c2, c3, c4, c5, c6, f1, f2, f3, f4, f5, f6⟩ := hl.x
      have HL : Hid (LnAt wr X s j true z 8 nm vl) := hl
      clear hl HVS
      go_wp2
      go_ret
      exact ⟨HK.out, ⟨_, rfl⟩, _, HL.out⟩
end Go.Proofs.YtfckdleahljdeaaGreatDoor
