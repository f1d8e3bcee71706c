/- How the program reads a duration. -/
import Derived.Test.YtmlcilalmhpmiaaDoorMGf
namespace Go.Proofs.YtmlcilalmhpmiaaDoor
open Go.RowKit Go.Maps

def lenV : Value → Nat
  | .string b => b.size
  | _ => 0
theorem sizeL (l : List UInt8) : (⟨l.toArray⟩ : ByteArray).size = l.length := by simp [ByteArray.size]
theorem toL (l : List UInt8) : (⟨l.toArray⟩ : ByteArray).toList = l := by rw [ByteArray.toList_eq]
theorem sizeU_0 : sizeU 0 = 31536000000 := rfl
theorem sizeU_1 : sizeU 1 = 604800000 := rfl
theorem sizeU_2 : sizeU 2 = 86400000 := rfl
theorem sizeU_3 : sizeU 3 = 3600000 := rfl
theorem sizeU_4 : sizeU 4 = 60000 := rfl
theorem sizeU_5 : sizeU 5 = 1000 := rfl
theorem sizeU_6 : sizeU 6 = 1 := rfl
theorem cut_rest {l nm r : List UInt8} {n : Nat} (h : cutP l = some (n, nm, r)) : r.length < l.length ∧ nm.length ≤ l.length ∧ n < 1000000000000000 := by
  unfold cutP at h
  split at h
  · cases h
  · rename_i hb
    injection h with h
    injection h with h1 h2
    injection h2 with h2 h3
    have e1 := congrArg List.length (List.takeWhile_append_dropWhile (p := isDB) (l := l))
    have e2 := congrArg List.length (List.takeWhile_append_dropWhile (p := fun b => !isDB b) (l := l.dropWhile isDB))
    rw [List.length_append] at e1 e2
    rw [h2, h3] at e2
    have hpos : 0 < (l.takeWhile isDB).length := List.length_pos_iff.2 (fun e => hb (Or.inl e))
    refine ⟨by omega, by omega, ?_⟩
    rw [← h1]
    have h4 := valT_lt (l.takeWhile isDB) (fun b hb => (isDB_iff b).1 (tw_all l b hb))
    have h5 : 10 ^ (l.takeWhile isDB).length ≤ 10 ^ 15 := Nat.pow_le_pow_right (by decide) (Nat.le_of_not_lt fun h => hb (Or.inr h))
    omega
/-- What is known of the sum: it is T, or it is too great. -/
def SumAt (L : Bool) (T : Nat) (st : Option Nat) : Prop := (L = false ∧ st = some T) ∨ (L = true ∧ st = none)
theorem SumAt.over {L : Bool} {T : Nat} {st : Option Nat} (h : SumAt L T st) {n m : Nat} (hlt : 9007199254740992 < T + n * m) : SumAt true T (addP st n m) := by
  refine Or.inr ⟨rfl, ?_⟩
  rcases h with ⟨_, rfl⟩ | ⟨_, rfl⟩
  · show (if 9007199254740992 < T + n * m then none else some (T + n * m)) = _
    rw [if_pos hlt]
  · rfl
theorem SumAt.more {L : Bool} {T : Nat} {st : Option Nat} (h : SumAt L T st) {n m : Nat} (hle : T + n * m ≤ 9007199254740992) : SumAt L (T + n * m) (addP st n m) := by
  rcases h with ⟨h1, rfl⟩ | ⟨h1, rfl⟩
  · refine Or.inl ⟨h1, ?_⟩
    show (if 9007199254740992 < T + n * m then none else some (T + n * m)) = _
    rw [if_neg (by omega)]
  · exact Or.inr ⟨h1, rfl⟩
theorem over_lt {T n m Q : Nat} (hT : T ≤ 9007199254740992) (hm : 0 < m) (hQ : Q = (9007199254740992 - T) / m) (h : Q < n) : 9007199254740992 < T + n * m := by
  rw [hQ, Nat.div_lt_iff_lt_mul hm] at h
  omega
theorem more_le {T n m Q : Nat} (hT : T ≤ 9007199254740992) (hm : 0 < m) (hQ : Q = (9007199254740992 - T) / m) (h : ¬ Q < n) : T + n * m ≤ 9007199254740992 := by
  have h1 : n ≤ (9007199254740992 - T) / m := by omega
  rw [Nat.le_div_iff_mul_le hm] at h1
  omega
/-- What the program reckons at a unit of m milliseconds. -/
theorem quo_facts {T n m : Nat} {L : Bool} {st : Option Nat} (hT : T ≤ 9007199254740992) (hm : 0 < m) (hst : SumAt L T st) : ∃ Q : Nat, (9007199254740992 - (T : Int)).tdiv m = (Q : Int) ∧ wrap64 (Q : Int) = Q ∧
    ((Q < n ∧ (Q : Int) < n ∧ SumAt true T (addP st n m)) ∨ (¬ Q < n ∧ ¬ (Q : Int) < n ∧ T + n * m ≤ 9007199254740992 ∧ SumAt L (T + n * m) (addP st n m))) := by
  have hle : (9007199254740992 - T) / m ≤ 9007199254740992 := Nat.le_trans (Nat.div_le_self _ _) (by omega)
  refine ⟨(9007199254740992 - T) / m, ?_, ?_, ?_⟩
  · rw [show (9007199254740992 - (T : Int)) = ((9007199254740992 - T : Nat) : Int) by omega]
    exact (Int.ofNat_tdiv _ _).symm
  · generalize (9007199254740992 - T) / m = Q at *
    unfold wrap64
    omega
  · by_cases h : (9007199254740992 - T) / m < n
    · exact Or.inl ⟨h, Int.ofNat_lt.2 h, hst.over (over_lt hT hm rfl h)⟩
    · exact Or.inr ⟨h, fun h9 => h (Int.ofNat_lt.1 h9), more_le hT hm rfl h, hst.more (more_le hT hm rfl h)⟩
theorem durP_none {f : Nat} {l : List UInt8} {F : Nat} {st : Option Nat} (hne : l ≠ []) (hf : l.length < f) (h : cutP l = none) : durP f l F st = (0, 8) := by
  cases f with
  | zero => omega
  | succ f => rw [durP, if_neg hne, h]
theorem durP_name {f : Nat} {l nm r : List UInt8} {n F : Nat} {st : Option Nat} (hne : l ≠ []) (hf : l.length < f) (h : cutP l = some (n, nm, r)) (hu : unitIx nm = none) : durP f l F st = (0, 8) := by
  cases f with
  | zero => omega
  | succ f => rw [durP, if_neg hne, h]; dsimp only; rw [hu]
theorem durP_back {f : Nat} {l nm r : List UInt8} {n F j : Nat} {st : Option Nat} (hne : l ≠ []) (hf : l.length < f) (h : cutP l = some (n, nm, r)) (hu : unitIx nm = some j) (hj : j < F) : durP f l F st = (0, 8) := by
  cases f with
  | zero => omega
  | succ f => rw [durP, if_neg hne, h]; dsimp only; rw [hu]; dsimp only; rw [if_pos hj]
theorem durP_on {f : Nat} {l nm r : List UInt8} {n F j : Nat} {st : Option Nat} (hne : l ≠ []) (hf : l.length < f) (h : cutP l = some (n, nm, r)) (hu : unitIx nm = some j) (hj : ¬ j < F) : ∃ f', r.length < f' ∧ durP f l F st = durP f' r (j + 1) (addP st n (sizeU j)) := by
  cases f with
  | zero => omega
  | succ f =>
    have := (cut_rest h).1
    exact ⟨f, by omega, by rw [durP, if_neg hne, h]; dsimp only; rw [hu]; dsimp only; rw [if_neg hj]⟩
theorem durP_end {f F : Nat} {st : Option Nat} (hf : 0 < f) : durP f [] F st = endP st := by
  cases f with
  | zero => omega
  | succ f => rw [durP, if_pos rfl]

set_option maxRecDepth 100000 in
set_option maxHeartbeats 1000000 in
theorem durRead_any (s : List UInt8) (w : World) (hs : s.length ≤ maxLen) (hU : Units w) : Calls Tryd.prog 25 #[.string ⟨s.toArray⟩] w fun e w' => e = .returned (.tuple #[.int .i64 (durR s).1, .int .i64 (durR s).2]) ∧ Below w.heap.size w w' := by
  have htl := toL s
  have HUN : Hid (Units w) := hU
  clear hU
  by_cases h48 : s = [48]
  · subst h48
    clear htl HUN
    go_enter Tryd.func25, Tryd.ntmps25
    go_wp2
    go_ret2
    exact ⟨rfl, Below.refl _ _⟩
  · by_cases h0 : s = []
    · subst h0
      clear htl HUN h48
      go_enter Tryd.func25, Tryd.ntmps25
      go_wp2
      go_ret2
      exact ⟨rfl, Below.refl _ _⟩
    · have HR : Hid (durR s = durP (s.length + 1) s 0 (some 0)) := by
        show _ = _
        unfold durR
        rw [if_neg h48, if_neg h0]
      generalize durR s = R at *
      have hc1 : ((⟨s.toArray⟩ : ByteArray).toList == [48]) = false := by rw [beq_eq_false_iff_ne, htl]; exact h48
      have hc2 : ((⟨s.toArray⟩ : ByteArray).toList == []) = false := by rw [beq_eq_false_iff_ne, htl]; exact h0
      have hc3 : ¬ (⟨s.toArray⟩ : ByteArray).toList = [48] := by rw [htl]; exact h48
      have hc4 : ¬ (⟨s.toArray⟩ : ByteArray).toList = [] := by rw [htl]; exact h0
      have hc5 : (⟨s.toArray⟩ : ByteArray).toList.isEmpty = false := by rw [htl]; cases s with
        | nil => exact absurd rfl h0
        | cons _ _ => rfl
      clear htl h48 h0
      go_enter Tryd.func25, Tryd.ntmps25
      obtain ⟨S0, hS0⟩ : ∃ S0 : ByteArray, S0 = ⟨s.toArray⟩ := ⟨_, rfl⟩
      rw [← hS0] at hc1 hc2 hc3 hc4 hc5 ⊢
      have HS0 : Hid (S0 = ⟨s.toArray⟩) := hS0
      clear hS0
      go_wp2
      go_loopw [0, 4, 5, 6] (fun sv tv fv lv wr => ∃ (l : List UInt8) (f T F : Nat) (L : Bool) (st : Option Nat), sv = .string ⟨l.toArray⟩ ∧ l.length ≤ maxLen ∧ tv = .int .i64 T ∧ T ≤ 9007199254740992 ∧ fv = .int .i64 F ∧ F ≤ 7 ∧ lv = .bool L ∧ Hid (l.length < f ∧ durP f l F st = R ∧ SumAt L T st ∧ Below w.heap.size w wr)) (fun sv _ _ _ _ => lenV sv)
      case atStart => exact ⟨s, s.length + 1, 0, 0, false, some 0, by rw [HS0.out], hs, rfl, by omega, rfl, by omega, rfl, by omega, HR.out.symm, Or.inl ⟨rfl, rfl⟩, Below.refl _ _⟩
      case round =>
        clear hc1 hc2 hc3 hc4 hc5 HS0 HR hs
        obtain ⟨l, f, T, F, L, st, rfl, hl, rfl, hT, rfl, hF, rfl, HI⟩ := hrel
        have htl := toL l
        have hsz := sizeL l
        by_cases h0 : l = []
        · subst h0
          have hR : endP st = R := by
            rw [← HI.out.2.1, durP_end]
            exact HI.out.1
          have HB : Hid (Below w.heap.size w wr) := HI.out.2.2.2
          clear htl hsz
          rcases HI.out.2.2.1 with ⟨rfl, rfl⟩ | ⟨rfl, rfl⟩
          · have HRR : Hid (R = ((T : Int), 0)) := hR.symm
            clear hR HI
            go_wp2
            go_ret2
            exact ⟨by rw [HRR.out]; rfl, HB.out⟩
          · have HRR : Hid (R = (0, 9)) := hR.symm
            clear hR HI
            go_wp2
            go_ret2
            exact ⟨by rw [HRR.out]; rfl, HB.out⟩
        · have hc2 : ((⟨l.toArray⟩ : ByteArray).toList == []) = false := by rw [beq_eq_false_iff_ne, htl]; exact h0
          have hc4 : ¬ (⟨l.toArray⟩ : ByteArray).toList = [] := by rw [htl]; exact h0
          have hc5 : (⟨l.toArray⟩ : ByteArray).toList.isEmpty = false := by rw [htl]; cases l with
            | nil => exact absurd rfl h0
            | cons _ _ => rfl
          have hcut := cutPart_any ⟨l.toArray⟩ wr (by rw [hsz]; exact hl)
          rw [show ((⟨l.toArray⟩ : ByteArray)).data.toList = l from rfl] at hcut
          have HB : Hid (Below w.heap.size w wr) := HI.out.2.2.2
          have hun : ∀ (nm : List UInt8) (W : World), Below w.heap.size w W → Calls Tryd.prog 60 #[.string ⟨nm.toArray⟩] W fun e w' => e = .returned (.int .i64 (unitV nm)) ∧ Below W.heap.size W w' := fun nm W hb => unitAt_any ⟨nm.toArray⟩ W (HUN.out.below hb)
          unfold cutV at hcut
          cases hcp : cutP l with
          | none =>
            have HRR : Hid (R = (0, 8)) := HI.out.2.1.symm.trans (durP_none h0 HI.out.1 hcp)
            rw [hcp] at hcut
            dsimp only at hcut
            have HUA : Hid (∀ W : World, Below w.heap.size w W → Calls Tryd.prog 60 #[.string ⟨#[]⟩] W fun e w' => e = .returned (.int .i64 (-1)) ∧ Below W.heap.size W w') := hun []
            clear hun HI hcp htl hsz h0
            generalize (⟨l.toArray⟩ : ByteArray) = LS at *
            go_wp2_with (first
              | (go_at_call 59; refine hcut.mono ?_; clear hcut; rintro e w1 ⟨rfl, q, rfl⟩; have HB1 : Hid (Below w.heap.size w (wr.drewN q)) := below_drewN HB.out q)
              | (go_at_call 60; refine (HUA.out _ HB1.out).mono ?_; clear HUA; rintro e w2 ⟨rfl, hb2⟩; have HB2 : Hid (Below w.heap.size w w2) := HB1.out.trans (hb2.mono HB1.out.size); clear hb2))
            go_ret2
            exact ⟨by rw [HRR.out]; rfl, HB2.out⟩
          | some x =>
            obtain ⟨n, nm, r⟩ := x
            rw [hcp] at hcut
            dsimp only at hcut
            obtain ⟨hr1, hr2, hn⟩ := cut_rest hcp
            have HUA : Hid (∀ W : World, Below w.heap.size w W → Calls Tryd.prog 60 #[.string ⟨nm.toArray⟩] W fun e w' => e = .returned (.int .i64 (unitV nm)) ∧ Below W.heap.size W w') := hun nm
            clear hun
            unfold unitV at HUA
            cases hux : unitIx nm with
            | none =>
              have HRR : Hid (R = (0, 8)) := HI.out.2.1.symm.trans (durP_name h0 HI.out.1 hcp hux)
              rw [hux] at HUA
              dsimp only at HUA
              clear HI hcp htl hsz h0 hux
              generalize (⟨l.toArray⟩ : ByteArray) = LS at *
              generalize (⟨nm.toArray⟩ : ByteArray) = NS at *
              generalize (⟨r.toArray⟩ : ByteArray) = RS at *
              have hm1 : (-1 : Int) < F := by omega
              go_wp2_with (first
                | (go_at_call 59; refine hcut.mono ?_; clear hcut; rintro e w1 ⟨rfl, q, rfl⟩; have HB1 : Hid (Below w.heap.size w (wr.drewN q)) := below_drewN HB.out q)
                | (go_at_call 60; refine (HUA.out _ HB1.out).mono ?_; clear HUA; rintro e w2 ⟨rfl, hb2⟩; have HB2 : Hid (Below w.heap.size w w2) := HB1.out.trans (hb2.mono HB1.out.size); clear hb2))
              go_ret2
              exact ⟨by rw [HRR.out]; rfl, HB2.out⟩
            | some j =>
              rw [hux] at HUA
              dsimp only at HUA
              by_cases hjF : j < F
              · have HRR : Hid (R = (0, 8)) := HI.out.2.1.symm.trans (durP_back h0 HI.out.1 hcp hux hjF)
                clear HI hcp htl hsz h0 hux
                generalize (⟨l.toArray⟩ : ByteArray) = LS at *
                generalize (⟨nm.toArray⟩ : ByteArray) = NS at *
                generalize (⟨r.toArray⟩ : ByteArray) = RS at *
                have hm1 : (j : Int) < F := by omega
                go_wp2_with (first
                  | (go_at_call 59; refine hcut.mono ?_; clear hcut; rintro e w1 ⟨rfl, q, rfl⟩; have HB1 : Hid (Below w.heap.size w (wr.drewN q)) := below_drewN HB.out q)
                  | (go_at_call 60; refine (HUA.out _ HB1.out).mono ?_; clear HUA; rintro e w2 ⟨rfl, hb2⟩; have HB2 : Hid (Below w.heap.size w w2) := HB1.out.trans (hb2.mono HB1.out.size); clear hb2))
                go_ret2
                exact ⟨by rw [HRR.out]; rfl, HB2.out⟩
              · obtain ⟨f', hf', hon⟩ := durP_on (st := st) h0 HI.out.1 hcp hux hjF
                have hj7 := (unitIx_name hux).1
                have HON : Hid (r.length < f' ∧ durP f' r (j + 1) (addP st n (sizeU j)) = R) := ⟨hf', hon.symm.trans HI.out.2.1⟩
                have HST : Hid (SumAt L T st) := HI.out.2.2.1
                have hrl : r.length ≤ maxLen := by omega
                have hms : (⟨r.toArray⟩ : ByteArray).size < (⟨l.toArray⟩ : ByteArray).size := by rw [hsz, sizeL]; exact hr1
                clear HI hcp htl hsz h0 hux hf' hon hr1 hr2 hl
                have hRS : ∃ RS : ByteArray, RS = ⟨r.toArray⟩ := ⟨_, rfl⟩
                obtain ⟨RS, hRS⟩ := hRS
                rw [← hRS] at hcut hms
                have HRS : Hid (RS = ⟨r.toArray⟩) := hRS
                clear hRS
                generalize (⟨l.toArray⟩ : ByteArray) = LS at *
                generalize (⟨nm.toArray⟩ : ByteArray) = NS at *
                rcases (show j = 0 ∨ j = 1 ∨ j = 2 ∨ j = 3 ∨ j = 4 ∨ j = 5 ∨ j = 6 by omega) with rfl | rfl | rfl | rfl | rfl | rfl | rfl
                · obtain ⟨Q, hq, hw, hQ⟩ := quo_facts (n := n) hT (show 0 < sizeU 0 by rw [sizeU_0]; decide) HST.out
                  rw [sizeU_0] at hq hQ
                  rw [sizeU_0] at HON
                  have hq : (9007199254740992 - (T : Int)).tdiv 31536000000 = (Q : Int) := hq
                  have hm1 : ¬ (0 : Int) < F := by clear hq hw hQ; omega
                  clear hjF hj7 HST
                  rcases hQ with ⟨hgn, hgt, hS2⟩ | ⟨hgn, hgt, hle, hS2⟩
                  · have HS2 : Hid (SumAt true T (addP st n 31536000000)) := hS2
                    clear hS2 hgn
                    go_wp2_with (first
                      | (go_at_call 59; refine hcut.mono ?_; clear hcut; rintro e w1 ⟨rfl, q, rfl⟩; have HB1 : Hid (Below w.heap.size w (wr.drewN q)) := below_drewN HB.out q)
                      | (go_at_call 60; refine (HUA.out _ HB1.out).mono ?_; clear HUA; rintro e w2 ⟨rfl, hb2⟩; have HB2 : Hid (Below w.heap.size w w2) := HB1.out.trans (hb2.mono HB1.out.size); clear hb2; obtain ⟨z0, z1, z2, z3, z4, z5, z6, z7, z8, z9, z10, z11, z12, z13, z14⟩ := HUN.out.below HB2.out))
                    go_roundw
                    case rel => exact ⟨r, f', T, 1, true, _, by rw [HRS.out], hrl, rfl, hT, rfl, by decide, rfl, HON.out.1, HON.out.2, HS2.out, HB2.out⟩
                    case measure => simpa [lenV] using hms
                  · have HS2 : Hid (SumAt L (T + n * 31536000000) (addP st n 31536000000)) := hS2
                    clear hS2 hgn
                    go_wp2_with (first
                      | (go_at_call 59; refine hcut.mono ?_; clear hcut; rintro e w1 ⟨rfl, q, rfl⟩; have HB1 : Hid (Below w.heap.size w (wr.drewN q)) := below_drewN HB.out q)
                      | (go_at_call 60; refine (HUA.out _ HB1.out).mono ?_; clear HUA; rintro e w2 ⟨rfl, hb2⟩; have HB2 : Hid (Below w.heap.size w w2) := HB1.out.trans (hb2.mono HB1.out.size); clear hb2; obtain ⟨z0, z1, z2, z3, z4, z5, z6, z7, z8, z9, z10, z11, z12, z13, z14⟩ := HUN.out.below HB2.out))
                    go_roundw
                    case rel => exact ⟨r, f', T + n * 31536000000, 1, L, _, by rw [HRS.out], hrl, by go_num, hle, rfl, by decide, rfl, HON.out.1, HON.out.2, HS2.out, HB2.out⟩
                    case measure => simpa [lenV] using hms
                · obtain ⟨Q, hq, hw, hQ⟩ := quo_facts (n := n) hT (show 0 < sizeU 1 by rw [sizeU_1]; decide) HST.out
                  rw [sizeU_1] at hq hQ
                  rw [sizeU_1] at HON
                  have hq : (9007199254740992 - (T : Int)).tdiv 604800000 = (Q : Int) := hq
                  have hm1 : ¬ (1 : Int) < F := by clear hq hw hQ; omega
                  clear hjF hj7 HST
                  rcases hQ with ⟨hgn, hgt, hS2⟩ | ⟨hgn, hgt, hle, hS2⟩
                  · have HS2 : Hid (SumAt true T (addP st n 604800000)) := hS2
                    clear hS2 hgn
                    go_wp2_with (first
                      | (go_at_call 59; refine hcut.mono ?_; clear hcut; rintro e w1 ⟨rfl, q, rfl⟩; have HB1 : Hid (Below w.heap.size w (wr.drewN q)) := below_drewN HB.out q)
                      | (go_at_call 60; refine (HUA.out _ HB1.out).mono ?_; clear HUA; rintro e w2 ⟨rfl, hb2⟩; have HB2 : Hid (Below w.heap.size w w2) := HB1.out.trans (hb2.mono HB1.out.size); clear hb2; obtain ⟨z0, z1, z2, z3, z4, z5, z6, z7, z8, z9, z10, z11, z12, z13, z14⟩ := HUN.out.below HB2.out))
                    go_roundw
                    case rel => exact ⟨r, f', T, 2, true, _, by rw [HRS.out], hrl, rfl, hT, rfl, by decide, rfl, HON.out.1, HON.out.2, HS2.out, HB2.out⟩
                    case measure => simpa [lenV] using hms
                  · have HS2 : Hid (SumAt L (T + n * 604800000) (addP st n 604800000)) := hS2
                    clear hS2 hgn
                    go_wp2_with (first
                      | (go_at_call 59; refine hcut.mono ?_; clear hcut; rintro e w1 ⟨rfl, q, rfl⟩; have HB1 : Hid (Below w.heap.size w (wr.drewN q)) := below_drewN HB.out q)
                      | (go_at_call 60; refine (HUA.out _ HB1.out).mono ?_; clear HUA; rintro e w2 ⟨rfl, hb2⟩; have HB2 : Hid (Below w.heap.size w w2) := HB1.out.trans (hb2.mono HB1.out.size); clear hb2; obtain ⟨z0, z1, z2, z3, z4, z5, z6, z7, z8, z9, z10, z11, z12, z13, z14⟩ := HUN.out.below HB2.out))
                    go_roundw
                    case rel => exact ⟨r, f', T + n * 604800000, 2, L, _, by rw [HRS.out], hrl, by go_num, hle, rfl, by decide, rfl, HON.out.1, HON.out.2, HS2.out, HB2.out⟩
                    case measure => simpa [lenV] using hms
                · obtain ⟨Q, hq, hw, hQ⟩ := quo_facts (n := n) hT (show 0 < sizeU 2 by rw [sizeU_2]; decide) HST.out
                  rw [sizeU_2] at hq hQ
                  rw [sizeU_2] at HON
                  have hq : (9007199254740992 - (T : Int)).tdiv 86400000 = (Q : Int) := hq
                  have hm1 : ¬ (2 : Int) < F := by clear hq hw hQ; omega
                  clear hjF hj7 HST
                  rcases hQ with ⟨hgn, hgt, hS2⟩ | ⟨hgn, hgt, hle, hS2⟩
                  · have HS2 : Hid (SumAt true T (addP st n 86400000)) := hS2
                    clear hS2 hgn
                    go_wp2_with (first
                      | (go_at_call 59; refine hcut.mono ?_; clear hcut; rintro e w1 ⟨rfl, q, rfl⟩; have HB1 : Hid (Below w.heap.size w (wr.drewN q)) := below_drewN HB.out q)
                      | (go_at_call 60; refine (HUA.out _ HB1.out).mono ?_; clear HUA; rintro e w2 ⟨rfl, hb2⟩; have HB2 : Hid (Below w.heap.size w w2) := HB1.out.trans (hb2.mono HB1.out.size); clear hb2; obtain ⟨z0, z1, z2, z3, z4, z5, z6, z7, z8, z9, z10, z11, z12, z13, z14⟩ := HUN.out.below HB2.out))
                    go_roundw
                    case rel => exact ⟨r, f', T, 3, true, _, by rw [HRS.out], hrl, rfl, hT, rfl, by decide, rfl, HON.out.1, HON.out.2, HS2.out, HB2.out⟩
                    case measure => simpa [lenV] using hms
                  · have HS2 : Hid (SumAt L (T + n * 86400000) (addP st n 86400000)) := hS2
                    clear hS2 hgn
                    go_wp2_with (first
                      | (go_at_call 59; refine hcut.mono ?_; clear hcut; rintro e w1 ⟨rfl, q, rfl⟩; have HB1 : Hid (Below w.heap.size w (wr.drewN q)) := below_drewN HB.out q)
                      | (go_at_call 60; refine (HUA.out _ HB1.out).mono ?_; clear HUA; rintro e w2 ⟨rfl, hb2⟩; have HB2 : Hid (Below w.heap.size w w2) := HB1.out.trans (hb2.mono HB1.out.size); clear hb2; obtain ⟨z0, z1, z2, z3, z4, z5, z6, z7, z8, z9, z10, z11, z12, z13, z14⟩ := HUN.out.below HB2.out))
                    go_roundw
                    case rel => exact ⟨r, f', T + n * 86400000, 3, L, _, by rw [HRS.out], hrl, by go_num, hle, rfl, by decide, rfl, HON.out.1, HON.out.2, HS2.out, HB2.out⟩
                    case measure => simpa [lenV] using hms
                · obtain ⟨Q, hq, hw, hQ⟩ := quo_facts (n := n) hT (show 0 < sizeU 3 by rw [sizeU_3]; decide) HST.out
                  rw [sizeU_3] at hq hQ
                  rw [sizeU_3] at HON
                  have hq : (9007199254740992 - (T : Int)).tdiv 3600000 = (Q : Int) := hq
                  have hm1 : ¬ (3 : Int) < F := by clear hq hw hQ; omega
                  clear hjF hj7 HST
                  rcases hQ with ⟨hgn, hgt, hS2⟩ | ⟨hgn, hgt, hle, hS2⟩
                  · have HS2 : Hid (SumAt true T (addP st n 3600000)) := hS2
                    clear hS2 hgn
                    go_wp2_with (first
                      | (go_at_call 59; refine hcut.mono ?_; clear hcut; rintro e w1 ⟨rfl, q, rfl⟩; have HB1 : Hid (Below w.heap.size w (wr.drewN q)) := below_drewN HB.out q)
                      | (go_at_call 60; refine (HUA.out _ HB1.out).mono ?_; clear HUA; rintro e w2 ⟨rfl, hb2⟩; have HB2 : Hid (Below w.heap.size w w2) := HB1.out.trans (hb2.mono HB1.out.size); clear hb2; obtain ⟨z0, z1, z2, z3, z4, z5, z6, z7, z8, z9, z10, z11, z12, z13, z14⟩ := HUN.out.below HB2.out))
                    go_roundw
                    case rel => exact ⟨r, f', T, 4, true, _, by rw [HRS.out], hrl, rfl, hT, rfl, by decide, rfl, HON.out.1, HON.out.2, HS2.out, HB2.out⟩
                    case measure => simpa [lenV] using hms
                  · have HS2 : Hid (SumAt L (T + n * 3600000) (addP st n 3600000)) := hS2
                    clear hS2 hgn
                    go_wp2_with (first
                      | (go_at_call 59; refine hcut.mono ?_; clear hcut; rintro e w1 ⟨rfl, q, rfl⟩; have HB1 : Hid (Below w.heap.size w (wr.drewN q)) := below_drewN HB.out q)
                      | (go_at_call 60; refine (HUA.out _ HB1.out).mono ?_; clear HUA; rintro e w2 ⟨rfl, hb2⟩; have HB2 : Hid (Below w.heap.size w w2) := HB1.out.trans (hb2.mono HB1.out.size); clear hb2; obtain ⟨z0, z1, z2, z3, z4, z5, z6, z7, z8, z9, z10, z11, z12, z13, z14⟩ := HUN.out.below HB2.out))
                    go_roundw
                    case rel => exact ⟨r, f', T + n * 3600000, 4, L, _, by rw [HRS.out], hrl, by go_num, hle, rfl, by decide, rfl, HON.out.1, HON.out.2, HS2.out, HB2.out⟩
                    case measure => simpa [lenV] using hms
                · obtain ⟨Q, hq, hw, hQ⟩ := quo_facts (n := n) hT (show 0 < sizeU 4 by rw [sizeU_4]; decide) HST.out
                  rw [sizeU_4] at hq hQ
                  rw [sizeU_4] at HON
                  have hq : (9007199254740992 - (T : Int)).tdiv 60000 = (Q : Int) := hq
                  have hm1 : ¬ (4 : Int) < F := by clear hq hw hQ; omega
                  clear hjF hj7 HST
                  rcases hQ with ⟨hgn, hgt, hS2⟩ | ⟨hgn, hgt, hle, hS2⟩
                  · have HS2 : Hid (SumAt true T (addP st n 60000)) := hS2
                    clear hS2 hgn
                    go_wp2_with (first
                      | (go_at_call 59; refine hcut.mono ?_; clear hcut; rintro e w1 ⟨rfl, q, rfl⟩; have HB1 : Hid (Below w.heap.size w (wr.drewN q)) := below_drewN HB.out q)
                      | (go_at_call 60; refine (HUA.out _ HB1.out).mono ?_; clear HUA; rintro e w2 ⟨rfl, hb2⟩; have HB2 : Hid (Below w.heap.size w w2) := HB1.out.trans (hb2.mono HB1.out.size); clear hb2; obtain ⟨z0, z1, z2, z3, z4, z5, z6, z7, z8, z9, z10, z11, z12, z13, z14⟩ := HUN.out.below HB2.out))
                    go_roundw
                    case rel => exact ⟨r, f', T, 5, true, _, by rw [HRS.out], hrl, rfl, hT, rfl, by decide, rfl, HON.out.1, HON.out.2, HS2.out, HB2.out⟩
                    case measure => simpa [lenV] using hms
                  · have HS2 : Hid (SumAt L (T + n * 60000) (addP st n 60000)) := hS2
                    clear hS2 hgn
                    go_wp2_with (first
                      | (go_at_call 59; refine hcut.mono ?_; clear hcut; rintro e w1 ⟨rfl, q, rfl⟩; have HB1 : Hid (Below w.heap.size w (wr.drewN q)) := below_drewN HB.out q)
                      | (go_at_call 60; refine (HUA.out _ HB1.out).mono ?_; clear HUA; rintro e w2 ⟨rfl, hb2⟩; have HB2 : Hid (Below w.heap.size w w2) := HB1.out.trans (hb2.mono HB1.out.size); clear hb2; obtain ⟨z0, z1, z2, z3, z4, z5, z6, z7, z8, z9, z10, z11, z12, z13, z14⟩ := HUN.out.below HB2.out))
                    go_roundw
                    case rel => exact ⟨r, f', T + n * 60000, 5, L, _, by rw [HRS.out], hrl, by go_num, hle, rfl, by decide, rfl, HON.out.1, HON.out.2, HS2.out, HB2.out⟩
                    case measure => simpa [lenV] using hms
                · obtain ⟨Q, hq, hw, hQ⟩ := quo_facts (n := n) hT (show 0 < sizeU 5 by rw [sizeU_5]; decide) HST.out
                  rw [sizeU_5] at hq hQ
                  rw [sizeU_5] at HON
                  have hq : (9007199254740992 - (T : Int)).tdiv 1000 = (Q : Int) := hq
                  have hm1 : ¬ (5 : Int) < F := by clear hq hw hQ; omega
                  clear hjF hj7 HST
                  rcases hQ with ⟨hgn, hgt, hS2⟩ | ⟨hgn, hgt, hle, hS2⟩
                  · have HS2 : Hid (SumAt true T (addP st n 1000)) := hS2
                    clear hS2 hgn
                    go_wp2_with (first
                      | (go_at_call 59; refine hcut.mono ?_; clear hcut; rintro e w1 ⟨rfl, q, rfl⟩; have HB1 : Hid (Below w.heap.size w (wr.drewN q)) := below_drewN HB.out q)
                      | (go_at_call 60; refine (HUA.out _ HB1.out).mono ?_; clear HUA; rintro e w2 ⟨rfl, hb2⟩; have HB2 : Hid (Below w.heap.size w w2) := HB1.out.trans (hb2.mono HB1.out.size); clear hb2; obtain ⟨z0, z1, z2, z3, z4, z5, z6, z7, z8, z9, z10, z11, z12, z13, z14⟩ := HUN.out.below HB2.out))
                    go_roundw
                    case rel => exact ⟨r, f', T, 6, true, _, by rw [HRS.out], hrl, rfl, hT, rfl, by decide, rfl, HON.out.1, HON.out.2, HS2.out, HB2.out⟩
                    case measure => simpa [lenV] using hms
                  · have HS2 : Hid (SumAt L (T + n * 1000) (addP st n 1000)) := hS2
                    clear hS2 hgn
                    go_wp2_with (first
                      | (go_at_call 59; refine hcut.mono ?_; clear hcut; rintro e w1 ⟨rfl, q, rfl⟩; have HB1 : Hid (Below w.heap.size w (wr.drewN q)) := below_drewN HB.out q)
                      | (go_at_call 60; refine (HUA.out _ HB1.out).mono ?_; clear HUA; rintro e w2 ⟨rfl, hb2⟩; have HB2 : Hid (Below w.heap.size w w2) := HB1.out.trans (hb2.mono HB1.out.size); clear hb2; obtain ⟨z0, z1, z2, z3, z4, z5, z6, z7, z8, z9, z10, z11, z12, z13, z14⟩ := HUN.out.below HB2.out))
                    go_roundw
                    case rel => exact ⟨r, f', T + n * 1000, 6, L, _, by rw [HRS.out], hrl, by go_num, hle, rfl, by decide, rfl, HON.out.1, HON.out.2, HS2.out, HB2.out⟩
                    case measure => simpa [lenV] using hms
                · obtain ⟨Q, hq, hw, hQ⟩ := quo_facts (n := n) hT (show 0 < sizeU 6 by rw [sizeU_6]; decide) HST.out
                  rw [sizeU_6] at hq hQ
                  rw [sizeU_6] at HON
                  have hq : (9007199254740992 - (T : Int)).tdiv 1 = (Q : Int) := hq
                  have hm1 : ¬ (6 : Int) < F := by clear hq hw hQ; omega
                  clear hjF hj7 HST
                  rcases hQ with ⟨hgn, hgt, hS2⟩ | ⟨hgn, hgt, hle, hS2⟩
                  · have HS2 : Hid (SumAt true T (addP st n 1)) := hS2
                    clear hS2 hgn
                    go_wp2_with (first
                      | (go_at_call 59; refine hcut.mono ?_; clear hcut; rintro e w1 ⟨rfl, q, rfl⟩; have HB1 : Hid (Below w.heap.size w (wr.drewN q)) := below_drewN HB.out q)
                      | (go_at_call 60; refine (HUA.out _ HB1.out).mono ?_; clear HUA; rintro e w2 ⟨rfl, hb2⟩; have HB2 : Hid (Below w.heap.size w w2) := HB1.out.trans (hb2.mono HB1.out.size); clear hb2; obtain ⟨z0, z1, z2, z3, z4, z5, z6, z7, z8, z9, z10, z11, z12, z13, z14⟩ := HUN.out.below HB2.out))
                    go_roundw
                    case rel => exact ⟨r, f', T, 7, true, _, by rw [HRS.out], hrl, rfl, hT, rfl, by decide, rfl, HON.out.1, HON.out.2, HS2.out, HB2.out⟩
                    case measure => simpa [lenV] using hms
                  · have HS2 : Hid (SumAt L (T + n * 1) (addP st n 1)) := hS2
                    clear hS2 hgn
                    go_wp2_with (first
                      | (go_at_call 59; refine hcut.mono ?_; clear hcut; rintro e w1 ⟨rfl, q, rfl⟩; have HB1 : Hid (Below w.heap.size w (wr.drewN q)) := below_drewN HB.out q)
                      | (go_at_call 60; refine (HUA.out _ HB1.out).mono ?_; clear HUA; rintro e w2 ⟨rfl, hb2⟩; have HB2 : Hid (Below w.heap.size w w2) := HB1.out.trans (hb2.mono HB1.out.size); clear hb2; obtain ⟨z0, z1, z2, z3, z4, z5, z6, z7, z8, z9, z10, z11, z12, z13, z14⟩ := HUN.out.below HB2.out))
                    go_roundw
                    case rel => exact ⟨r, f', T + n * 1, 7, L, _, by rw [HRS.out], hrl, by go_num, hle, rfl, by decide, rfl, HON.out.1, HON.out.2, HS2.out, HB2.out⟩
                    case measure => simpa [lenV] using hms
end Go.Proofs.YtmlcilalmhpmiaaDoor
