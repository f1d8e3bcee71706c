/- Texts that belong together. -/
import Derived.Test.YtmbkcmfcdjccoaaDoorMP62
import Derived.Test.YtmbkcmfcdjccoaaDoorMP63
import Derived.Test.YtmbkcmfcdjccoaaDoorMP54
import Derived.Deep.RegionHeld3
import Derived.BigQuiet
import Derived.Test.YtmbkcmfcdjccoaaDoorRows
import Derived.Deep.Slices
import Derived.Deep.Strs
import Derived.ProofKit
import Derived.Lib.LaidU8T
import Derived.Lib.LaidIn
import Derived.MakeChecks
import Derived.SizedLaws
import Derived.OpenShut
import Derived.LaidLaws
import Derived.ChangeSlices
/- The law of quoted texts: walked. -/
namespace Go.Proofs.YtmbkcmfcdjccoaaDoor
open Go.RowKit Go.Maps

theorem quL_tx (cs : List Nat) : quL (txB cs) = cs.flatMap qC := by
  unfold quL txB qC quL
  rw [List.flatMap_assoc]
theorem eqB_eq (a b : ByteArray) : (a.toList == b.toList) = decide (a = b) := by
  by_cases h : a = b
  · subst h
    simp
  · rw [decide_eq_false h]
    have : a.toList ≠ b.toList := fun e => h (ByteArray.ext (Array.toList_inj.1 (by rw [← ByteArray.toList_eq, ← ByteArray.toList_eq, e])))
    simpa using this
set_option maxRecDepth 100000 in
set_option maxHeartbeats 3200000 in
theorem quoteLaw_any (B : Nat) (w : World) (s : ByteArray) (la : Option Addr) (lc : Nat) (ss : List ByteArray) (hE : Env8 w B) (hB : B ≤ w.heap.size) (hS : TextsAt w (.slice la ss.length lc) ss) :
    Calls Tryd.prog 3 #[.string s, .slice la ss.length lc] w fun e w' => e = .returned (.bool true) ∧ Below w.heap.size w w' := by
  have HE := hide hE
  have HS := hide hS
  clear hE hS
  obtain ⟨m, hm⟩ : ∃ m, m = ss.length := ⟨_, rfl⟩
  have HM := hide hm
  rw [← hm] at HS ⊢
  clear hm
  have HCL : Hid (∀ W, Calls Tryd.prog 6 #[.string s] W fun e w' => e = .returned (.string (clipB s)) ∧ w' = W) := fun W => clip_any s W
  have hx60 := clipB_size s
  generalize clipB s = x at *
  have HV : Hid (∀ (y : ByteArray) (W : World), y.size ≤ 60 → Calls Tryd.prog 7 #[.string y] W fun e w' => e = .returned (.bool (Lib.validD y.data.toList)) ∧ w' = W) := fun y W h => valid_any y W (by omega)
  have HEW : Hid (∀ W, Below w.heap.size w W → Env8 W B ∧ B ≤ W.heap.size) := fun W hW => ⟨HE.out.below (hW.mono hB), Nat.le_trans hB hW.size⟩
  have HWK : Hid (∀ W, Below w.heap.size w W → Calls Tryd.prog 8 #[] W fun e w' => e = .returned (.bool true) ∧ Below W.heap.size W w') := fun W hW => wakes_any B W (HEW.out W hW).1 (HEW.out W hW).2
  have hvx : Hid (∀ W, Calls Tryd.prog 7 #[.string x] W fun e w' => e = .returned (.bool (Lib.validD x.data.toList)) ∧ w' = W) := fun W => HV.out x W hx60
  go_enter Tryd.func3, Tryd.ntmps3
  cases hval : Lib.validD x.data.toList with
  | false =>
    rw [hval] at hvx
    go_wp2_with (first
      | (go_at_call 6; refine (HCL.out _).mono ?_; clear HCL; rintro e w1 ⟨rfl, hw1⟩; have hw1 := hw1.symm; subst hw1)
      | (go_at_call 7; refine (hvx.out _).mono ?_; clear hvx; rintro e w2 ⟨rfl, hw2⟩; have hw2 := hw2.symm; subst hw2)
      | (go_at_call 8; refine (HWK.out _ (Below.refl _ _)).mono ?_; clear HWK; rintro e w3 ⟨rfl, hb3⟩))
    go_ret
    exact ⟨rfl, hb3⟩
  | true =>
    rw [hval] at hvx
    obtain ⟨cs, hcs, hch⟩ := chars_of _ _ (Nat.le_refl _) hval
    obtain ⟨q, hq⟩ : ∃ q : ByteArray, q = ⟨(quL x.data.toList).toArray⟩ := ⟨_, rfl⟩
    have hqd : q.data.toList = quL x.data.toList := by rw [hq]
    have hq2 : q.size ≤ 120 := by
      rw [Lib.size_eq, hqd]
      have h1 := quL_length x.data.toList
      rw [← Lib.size_eq] at h1
      omega
    have hcomp := quote_comp (s := q) hch (by omega) (by rw [hqd, hcs, quL_tx])
    have HQ1 : Hid (∀ W, Calls Tryd.prog 9 #[.string x] W fun e w' => e = .returned (.string q) ∧ Below W.heap.size W w') := fun W => by
      rw [hq]
      exact quote_any x W hx60
    have HQ2 : Hid (∀ W, Calls Tryd.prog 11 #[.string x] W fun e w' => e = .returned (.string q) ∧ Below W.heap.size W w') := fun W => by
      rw [hq]
      exact refQuote_any x W hx60
    have HC1 : Hid (∀ W, Below w.heap.size w W → Calls Tryd.prog 10 #[.string q] W fun e w' => Below W.heap.size W w' ∧ ∃ p, e = .returned (.tuple #[.pointer (some ⟨p, 0, none⟩), .int .i64 0, .int .i64 0]) ∧ PgS w' (Fresh W.heap.size w'.heap.size) p (.row (cs.map takN)) 0) := fun W hW => by
      have h9 := compile_any B q W (HEW.out W hW).1 (HEW.out W hW).2
      rw [hcomp] at h9
      refine h9.mono ?_
      rintro e w1 ⟨hb1, p, ms, rfl, hms, hpg⟩
      exact ⟨hb1, p, rfl, ms, hms, hpg⟩
    have HMP : Hid (∀ (W W2 : World) (p n : Nat) (y : ByteArray), PgS W (Fresh n W.heap.size) p (.row (cs.map takN)) 0 → Below W.heap.size W W2 → Below w.heap.size w W2 → y.size ≤ 60 → Lib.validD y.data.toList = true → Calls Tryd.prog 12 #[.pointer (some ⟨p, 0, none⟩), .string y] W2 fun e w' => e = .returned (.bool (decide (y = x))) ∧ Below W2.heap.size W2 w') := fun W W2 p n y hp hb hb2 hy hv => by
      have hp2 := PgS.below hp (fun i hi => hi.2) hb
      have h9 := match_any B p 0 _ _ y W2 hp2 (known_of hcomp) (fun i hi => Nat.lt_of_lt_of_le hi.2 hb.size) (HEW.out W2 hb2).1 (HEW.out W2 hb2).2 (by omega)
      rw [quote_means false hch hcs hv] at h9
      exact h9
    clear hcomp hch hcs hq hqd
    have HVX := hide hval
    clear hval
    go_upto_region 6 with (first
      | (go_at_call 6; refine (HCL.out _).mono ?_; clear HCL; rintro e w1 ⟨rfl, hw1⟩; have hw1 := hw1.symm; subst hw1)
      | (go_at_call 7; refine (hvx.out _).mono ?_; clear hvx; rintro e w2 ⟨rfl, hw2⟩; have hw2 := hw2.symm; subst hw2)
      | (go_at_call 9; refine (HQ1.out _).mono ?_; clear HQ1; rintro e w3 ⟨rfl, hb3⟩; have HB3 := hide hb3; clear hb3)
      | (go_at_call 10; refine (HC1.out _ HB3.out).mono ?_; clear HC1; rintro e w4 ⟨hb4, p, rfl, hp⟩; have HP := hide hp; have HB4 : Hid (Below w.heap.size w w4) := HB3.out.trans (hb4.mono HB3.out.size); clear hb4 hp))
    have HBX : Hid (∀ W, Below w4.heap.size w4 W → Below w.heap.size w W) := fun W hW => HB4.out.trans (hW.mono HB4.out.size)
    have HM0 : Hid (∀ W, Below w4.heap.size w4 W → Calls Tryd.prog 12 #[.pointer (some ⟨p, 0, none⟩), .string x] W fun e w' => e = .returned (.bool true) ∧ Below W.heap.size W w') := fun W hW => by
      have h9 := HMP.out w4 W p _ x HP.out hW (HBX.out W hW) hx60 HVX.out
      rw [decide_eq_true rfl] at h9
      exact h9
    have HMW : Hid (∀ W y, Below w4.heap.size w4 W → y.size ≤ 60 → Lib.validD y.data.toList = true → Calls Tryd.prog 12 #[.pointer (some ⟨p, 0, none⟩), .string y] W fun e w' => e = .returned (.bool (decide (y = x))) ∧ Below W.heap.size W w') := fun W y hW hy hv => HMP.out w4 W p _ y HP.out hW (HBX.out W hW) hy hv
    have HCU : Hid (∀ W, Below w4.heap.size w4 W → Calls Tryd.prog 13 #[.slice la m lc] W fun e w' => ∃ (X : List ByteArray) (a : Option Addr) (c : Nat), X.length ≤ 12 ∧ (∀ x ∈ X, x.size ≤ 60) ∧ e = .returned (.slice a X.length c) ∧ RowAt w' (.slice a X.length c) 1 X.length (txC X) ∧ Below W.heap.size W w') := fun W hW => by
      have h9 := HS.out
      rw [HM.out] at h9 ⊢
      refine Calls.mono (cut_any _ ss W (h9.below (HBX.out W hW))) ?_
      rintro e w' ⟨a, c, h1, h2, h3⟩
      refine ⟨cutB ss, a, c, by unfold cutB; simp; omega, fun x hx => ?_, h1, RowAt.of_row h2, h3⟩
      obtain ⟨y, -, rfl⟩ := List.mem_map.1 hx
      exact clipB_size y
    clear HMP HP
    go_wp2_with (first
      | (go_at_call 11; refine (HQ2.out _).mono ?_; clear HQ2; rintro e w5 ⟨rfl, hb5⟩; have HB5 := hide hb5; clear hb5)
      | (go_at_call 12; refine (HM0.out _ HB5.out).mono ?_; clear HM0; rintro e w6 ⟨rfl, hb6⟩; have HB6 : Hid (Below w4.heap.size w4 w6) := HB5.out.trans (hb6.mono HB5.out.size); clear hb6 HB5)
      | (go_at_call 13; refine (HCU.out _ HB6.out).mono ?_; clear HCU; rintro e w7 ⟨X, xa, xc, hX12, hx60', rfl, hxr, hb7⟩; have HX := hide (And.intro hx60' hxr); have HB7 : Hid (Below w4.heap.size w4 w7) := HB6.out.trans (hb7.mono HB6.out.size); clear hx60' hxr hb7))
    obtain ⟨N, hNl⟩ : ∃ N, N = X.length := ⟨_, rfl⟩
    have hN12 : N ≤ 12 := by omega
    clear hX12
    have HNL := hide hNl
    have HX2 : Hid ((∀ x ∈ X, x.size ≤ 60) ∧ RowAt w7 (.slice xa N xc) 1 N (txC X)) := by
      have h9 := HX.out
      rw [← hNl] at h9
      exact h9
    rw [← hNl]
    clear hNl HX
    go_loopw [9] (fun kv wx => ∃ k : Nat, kv = .int .i64 k ∧ k ≤ N ∧ Hid (Below w7.heap.size w7 wx)) (fun kv _ => N - (intOf kv).toNat)
    case atStart => exact ⟨0, rfl, Nat.zero_le _, Below.refl _ _⟩
    case round =>
      obtain ⟨k, rfl, hk, HB⟩ := hrel
      by_cases hkl : k < N
      · have hkX : k < X.length := by rw [← HNL.out]; exact hkl
        have hkz : (k : Int) < N := by omega
        obtain ⟨xb, xo, rfl, hx1⟩ := HX2.out.2.one (j := k) (u := .string X[k]) (by unfold txC; rw [List.getElem?_map, List.getElem?_eq_getElem hkX]; rfl)
        have HO : Hid (∀ W, Below w7.heap.size w7 W → W.cell? ⟨xb, xo + k, none⟩ = some (.string X[k]) ∧ Below w7.heap.size w7 W) := fun W hW => ⟨by have := hx1 W hW; first | exact this | simpa using this, hW⟩
        have hx6 := HX2.out.1 _ (List.getElem_mem hkX)
        generalize X[k] = y at *
        have HVY : Hid (∀ W, Calls Tryd.prog 7 #[.string y] W fun e w' => e = .returned (.bool (Lib.validD y.data.toList)) ∧ w' = W) := fun W => HV.out y W hx6
        have HMY : Hid (Lib.validD y.data.toList = true → ∀ W, Below w7.heap.size w7 W → Calls Tryd.prog 12 #[.pointer (some ⟨p, 0, none⟩), .string y] W fun e w' => e = .returned (.bool (decide (y = x))) ∧ Below w7.heap.size w7 w') := fun hv W hW => by
          refine (HMW.out W y (HB7.out.trans (hW.mono HB7.out.size)) hx6 hv).mono ?_
          rintro e w' ⟨he, hb⟩
          exact ⟨he, hW.trans (hb.mono hW.size)⟩
        have HEQ := hide (eqB_eq y x)
        have c0 := (HO.out wr HB.out).1
        clear hx1
        go_upto_region 12 with fail
        go_cut [69] from 50 to 69 (fun bv wx => bv = .bool false ∧ Hid (Below w7.heap.size w7 wx))
        case first =>
          have hd : Below w7.heap.size w7 wr.drew := HB.out.drew
          have HD := hide hd
          cases hv : Lib.validD y.data.toList with
          | false =>
            rw [hv] at HVY
            clear HMY HEQ
            go_quiet (first | (go_at_call 7; exact Calls.quiet_of_same (HVY.out _)))
            go_wp2_with fail
            go_meet
            case rel => exact ⟨rfl, below_drewN HB.out _⟩
          | true =>
            rw [hv] at HVY
            have HMZ := hide (HMY.out hv)
            clear HMY
            go_region_held3 (fun W' => W'.cell? ⟨xb, xo + k, none⟩ = some (.string y) ∧ Below w7.heap.size w7 W')
              (first | (refine HO.out _ ?_; exact HD.out) | (refine HO.out _ ?_; assumption))
              (first
                | (go_at_call 7; refine (HVY.out _).mono ?_; rintro e w8 ⟨rfl, hw8⟩; have hw8 := hw8.symm; subst hw8)
                | (go_at_call 12; refine (HMZ.out _ HD.out).mono ?_; rintro e w9 ⟨rfl, hb9⟩))
            all_goals
              go_wp2_with fail
              go_meet
              case rel =>
                refine ⟨by rw [HEQ.out]; simp, ?_⟩
                first | exact hb9 | assumption
        case rest =>
          clear HB
          obtain ⟨rfl, HB⟩ := hcut
          go_wp2_with fail
          go_roundw
          case rel => exact ⟨k + 1, by go_num, by omega, HB⟩
          case measure => simp [intOf]; omega
      · have hkz : ¬ (k : Int) < N := by omega
        have HW9 := hide (HWK.out wr (HBX.out wr (HB7.out.trans (HB.out.mono HB7.out.size))))
        clear HMW HWK
        go_wp2_with (go_at_call 8; refine HW9.out.mono ?_; clear HW9; rintro e w9 ⟨rfl, hb9⟩; have HB9 := hide hb9; clear hb9)
        go_ret
        exact ⟨rfl, (HBX.out wr (HB7.out.trans (HB.out.mono HB7.out.size))).trans (HB9.out.mono (Nat.le_trans HB4.out.size (HB7.out.trans (HB.out.mono HB7.out.size)).size))⟩
end Go.Proofs.YtmbkcmfcdjccoaaDoor

/- What comes in at the laws of quoting, of alternatives and of repeats: texts; utf8's tables. -/
namespace Go.Proofs.YtmbkcmfcdjccoaaDoor
open Go.ChangeShapes Go.WideShapes Go.ChangeAt Go.RowKit
open Go.Deep (open_slice choose_lt)

theorem own : ownKnob Tryd.prog.godebug = none := by kernel_rfl
theorem laidOut : laidOutB Tryd.prog = true := by kernel_rfl
theorem cells9 : Tryd.prog.cellsOf 9 = 1 := by kernel_rfl
theorem cellsTs : Tryd.prog.cellsOf 22 = 1 := by kernel_rfl
/-- What the row's list gives: utf8's tables. -/
theorem env_of {W : World} (h : laidMetH Tryd.prog Rows.regexQuoteRow.laid W) : Env8 W W.heap.size := by
  rw [MakeChecks.laidMetH_plain _ _ _ (by kernel_rfl)] at h
  have e1 : Rows.laid_unicode_utf8_first = Lib.firstData := by kernel_rfl
  have e2 : (Rows.laid_unicode_utf8_acceptRanges : DataW Unit) = Lib.acceptData := by kernel_rfl
  have h3 := Lib.laidMet.reads h (n := "unicode/utf8.first") (d := Rows.laid_unicode_utf8_first) (.tail _ (.head _))
  have h4 := Lib.laidMet.reads h (n := "unicode/utf8.acceptRanges") (d := Rows.laid_unicode_utf8_acceptRanges) (.head _)
  rw [e1] at h3
  rw [e2] at h4
  have ht := utf8Tabs_of_readsT (ρ := Tryd.decode_ren) { Tryd.decode with } ⟨by kernel_rfl, by kernel_rfl, by kernel_rfl, by kernel_rfl, by kernel_rfl, by kernel_rfl, by kernel_rfl⟩ h3 h4
  have g3 : Tryd.decode_ren.g 3 < W.heap.size := World.block_lt_of_cell? W _ (ht.1 0 (by decide))
  have g4 : Tryd.decode_ren.g 4 < W.heap.size := World.block_lt_of_cell? W _ (ht.2 0 (by decide)).1
  intro V hV
  have hc : ∀ (b j : Nat), b < W.heap.size → V.cell? ⟨b, j, none⟩ = W.cell? ⟨b, j, none⟩ := fun b j hb => by
    unfold World.cell?
    simp only [hV b hb]
  refine ⟨fun c hc' => ?_, fun i hi => ⟨?_, ?_⟩⟩
  · rw [hc _ _ g3]; exact ht.1 c hc'
  · rw [hc _ _ g4]; exact (ht.2 i hi).1
  · rw [hc _ _ g4]; exact (ht.2 i hi).2
def putC (cs : Array Value) : Obj → Obj
  | .cells _ t frozen => .cells cs t frozen
  | o => o
/-- A world that holds the two tables. -/
def laidW (w0 : World) : World := { w0 with heap := (w0.heap.modify 0 (putC (Lib.firstTab.map fun z => Value.int .u8 z).toArray)).modify 1 (putC ((List.range 16).flatMap fun i => [Value.int .u8 (Lib.accLo i), Value.int .u8 (Lib.accHi i)]).toArray) }

section
variable {H : Type} {enc : TypeId × Value → H} {w : World}
/-- A slice of texts. -/
theorem texts_came {a : Option Addr} {len cap : Nat} {d : DataW H} {p : List MemPlace} (h : DataW.Trod enc Tryd.prog w 0 (fun _ => true) true 22 (.slice a len cap) d p) :
    ∃ ss : List ByteArray, ss.length = len ∧ TextsAt w (.slice a len cap) ss := by
  obtain ⟨fuel, hf⟩ := h
  rcases open_strings Tryd.underlying22 Tryd.underlying9 cells9 hf with ⟨hcs, hx⟩ | ⟨x, len', cap', ss, hcs, _, hl, hm, hz, hx, hcell, hws⟩
  · simp [Value.cells] at hcs
    obtain ⟨rfl, rfl, rfl⟩ := hcs
    exact ⟨[], rfl, none, 0, rfl, ⟨Nat.zero_le _, Nat.zero_le _⟩, fun k hk => absurd hk (Nat.not_lt_zero _)⟩
  · simp [Value.cells] at hcs
    obtain ⟨rfl, rfl, rfl⟩ := hcs
    simp only [if_true] at hz
    have hlen : (ss.take len).length = len := by simp; omega
    refine ⟨ss.take len, hlen, some x, cap, by rw [hlen], ⟨by omega, by omega⟩, fun k hk => ?_⟩
    have hk' : k < len := by omega
    obtain ⟨b, off, spot⟩ := x
    have hspot : spot = none := by simpa [Addr.add] using World.cell?_spot (hcell 0 (by omega))
    subst hspot
    have hkc := hcell k (by omega)
    rw [add_plain] at hkc
    have e : ss.getD k ByteArray.empty = (ss.take len)[k] := by simp [List.getD, show k < ss.length by omega]
    rw [e] at hkc
    exact ⟨b, off, rfl, World.block_lt_of_cell? w _ hkc, hkc, hws _ (by simp)⟩
end
end Go.Proofs.YtmbkcmfcdjccoaaDoor
