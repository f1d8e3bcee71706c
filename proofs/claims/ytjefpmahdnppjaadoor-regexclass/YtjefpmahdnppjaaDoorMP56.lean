/- The law of classes: walked. -/
import Derived.Test.YtjefpmahdnppjaaDoorMP54
import Derived.Stop.FmtQuoteTie
import Derived.WalkMore
namespace Go.Proofs.YtjefpmahdnppjaaDoor
open Go.RowKit Go.Maps

/-- A slice that reads as these characters. -/
def RunesAt (w : World) (v : Value) (rs : List Int) : Prop :=
  ∃ a c, v = .slice a rs.length c ∧ (rs.length ≤ c ∧ c ≤ maxLen) ∧ ∀ k (hk : k < rs.length), ∃ b o, a = some ⟨b, o, none⟩ ∧ b < w.heap.size ∧ w.cell? ⟨b, o + k, none⟩ = some (.int .i32 rs[k]) ∧ -2147483648 ≤ rs[k] ∧ rs[k] ≤ 2147483647
theorem RunesAt.one {w : World} {a : Option Addr} {c : Nat} {rs : List Int} (h : RunesAt w (.slice a rs.length c) rs) (k : Nat) (hk : k < rs.length) : ∃ b o, a = some ⟨b, o, none⟩ ∧ -2147483648 ≤ rs[k] ∧ rs[k] ≤ 2147483647 ∧ ∀ w', Below w.heap.size w w' → w'.cell? ⟨b, o + k, none⟩ = some (.int .i32 rs[k]) := by
  obtain ⟨a', c', e, -, hc⟩ := h
  cases e
  obtain ⟨b, o, rfl, hb, h1, h2, h3⟩ := hc k hk
  exact ⟨b, o, rfl, h2, h3, fun w' hb' => (hb'.cell (p := ⟨b, o + k, none⟩) hb).trans h1⟩
theorem enc_ltr {c : Int} (h1 : 97 ≤ c) (h2 : c ≤ 122) : (Utf8.encode c).data.toList = [UInt8.ofNat c.toNat] ∧ ltr (UInt8.ofNat c.toNat) ∧ ((UInt8.ofNat c.toNat).toNat : Int) = c ∧ (Utf8.encode c).size = 1 := by
  obtain ⟨r, rfl⟩ : ∃ r : Nat, c = r := ⟨c.toNat, by omega⟩
  have e : (Utf8.encode (r : Int)).data.toList = [UInt8.ofNat r] := Extern.FmtText.enc1 r (by omega)
  have t : (UInt8.ofNat r).toNat = r := by rw [UInt8.toNat_ofNat']; omega
  refine ⟨by rw [e]; rfl, ?_, ?_, ?_⟩
  · show ltr (UInt8.ofNat r)
    unfold ltr
    rw [t]
    omega
  · show ((UInt8.ofNat r).toNat : Int) = r
    rw [t]
  · rw [Lib.size_eq, e]; rfl
theorem app_data (a b : ByteArray) : (a ++ b).data.toList = a.data.toList ++ b.data.toList := by simp
/-- The range that is written, and its text. -/
def RgSaid (R : Option (UInt8 × UInt8)) (rg : ByteArray) (lo hi : Int) : Prop := RgOk R ∧ match R with
  | none => rg = ⟨#[]⟩
  | some (a, b) => rg.size = 3 ∧ lo = a.toNat ∧ hi = b.toNat
theorem one_byte (x : ByteArray) (b : UInt8) : x.data.toList = [b] ↔ x.size = 1 ∧ bAt x 0 = b.toNat := by
  constructor
  · intro h
    refine ⟨by rw [Lib.size_eq, h]; rfl, ?_⟩
    unfold bAt
    rw [h]
    rfl
  · rintro ⟨h1, h2⟩
    rw [Lib.size_eq] at h1
    unfold bAt at h2
    match hx : x.data.toList with
    | [] => rw [hx] at h1; cases h1
    | [y] =>
      rw [hx] at h2
      have : y = b := UInt8.toNat_inj.1 h2
      rw [this]
    | y :: z :: t => rw [hx] at h1; simp at h1
theorem memS_app (A C : List Sp) (c : Int) : memS (A ++ C) c = (memS A c || memS C c) := by unfold memS; rw [List.any_append]
theorem mem_step {L : List UInt8} {s : ByteArray} (x : ByteArray) (hL : L = s.data.toList) {j : Nat} (hj : j < s.size) : (decide (x.size = 1) && memS ((L.take (j + 1)).map spB) (bAt x 0)) = ((decide (x.size = 1) && memS ((L.take j).map spB) (bAt x 0)) || (x.toList == (s.extract j (j + 1)).toList)) := by
  have hl : j < L.length := by rw [hL, ← Lib.size_eq]; exact hj
  have e0 : (s.extract j (j + 1)).toList = [L[j]] := by
    rw [ByteArray.toList_eq, Lib.extract_data]
    subst hL
    rw [show j + 1 - j = 1 by omega, List.drop_eq_getElem_cons hl]
    rfl
  have e1 : (x.toList == [L[j]]) = (decide (x.size = 1) && memS [spB L[j]] (bAt x 0)) := by
    rw [Bool.eq_iff_iff, beq_iff_eq, ByteArray.toList_eq, one_byte]
    simp only [Bool.and_eq_true, decide_eq_true_eq, memS, spB, List.any_cons, List.any_nil, Bool.or_false]
    constructor
    · rintro ⟨h1, h2⟩
      exact ⟨h1, by omega, by omega⟩
    · rintro ⟨h1, h2, h3⟩
      exact ⟨h1, by omega⟩
  rw [e0, e1, List.take_succ_eq_append_getElem hl, List.map_append, memS_app]
  cases decide (x.size = 1) <;> rfl
theorem memB_parts (L : List UInt8) (R : Option (UInt8 × UInt8)) (x : ByteArray) : memB L R x = ((decide (x.size = 1) && memS (L.map spB) (bAt x 0)) || (decide (x.size = 1) && memS (tailA R) (bAt x 0))) := by
  unfold memB clsA
  rw [memS_app]
  cases decide (x.size = 1) <;> rfl
set_option maxRecDepth 100000 in
set_option maxHeartbeats 3200000 in
theorem classLaw_any (B : Nat) (w : World) (ca la : Option Addr) (cc lc : Nat) (lo hi : Int) (rs : List Int) (ss : List ByteArray) (hE : Env8 w B) (hB : B ≤ w.heap.size) (hR : RunesAt w (.slice ca rs.length cc) rs) (hS : TextsAt w (.slice la ss.length lc) ss) (hlo : -2147483648 ≤ lo ∧ lo ≤ 2147483647) (hhi : -2147483648 ≤ hi ∧ hi ≤ 2147483647) :
    Calls Tryd.prog 3 #[.agg #[.slice ca rs.length cc, .int .i32 lo, .int .i32 hi, .slice la ss.length lc]] w fun e w' => e = .returned (.bool true) ∧ Below w.heap.size w w' := by
  have HE := hide hE
  have HRS := hide hR
  have HS := hide hS
  clear hE hR hS
  obtain ⟨n, hn⟩ : ∃ n, n = rs.length := ⟨_, rfl⟩
  obtain ⟨m, hm⟩ : ∃ m, m = ss.length := ⟨_, rfl⟩
  have HN := hide (And.intro hn hm)
  rw [← hn] at HRS ⊢
  rw [← hm] at HS ⊢
  clear hn hm
  obtain ⟨hlo1, hlo2⟩ := hlo
  obtain ⟨hhi1, hhi2⟩ := hhi
  go_enter Tryd.func3, Tryd.ntmps3
  go_wp2_with fail
  go_quiet (fail)
  go_wp2_with fail
  go_loopw [7, 8, 9] (fun sv iv _ wx => ∃ (i : Nat) (s : ByteArray), iv = .int .i64 i ∧ sv = .string s ∧ i ≤ n ∧ i ≤ 12 ∧ s.size ≤ i ∧ Hid (∀ b ∈ s.data.toList, ltr b) ∧ Hid (Below w.heap.size w wx)) (fun _ iv _ _ => 12 - (intOf iv).toNat)
  case atStart => exact ⟨0, ⟨#[]⟩, rfl, rfl, Nat.zero_le _, Nat.zero_le _, Nat.le_refl _, (fun b hb => by cases hb), below_drewN ((Below.refl _ w).alloc (Nat.le_refl _) _) _⟩
  case round =>
    obtain ⟨i, s, rfl, rfl, hi1, hi2, hsz, HL, HB⟩ := hrel
    by_cases hlt : i < n ∧ i < 12
    · obtain ⟨h1, h2⟩ := hlt
      have hkl : i < rs.length := by rw [← HN.out.1]; exact h1
      have hz1 : (i : Int) < n := by omega
      have hz2 : (i : Int) < 12 := by omega
      have hT2 := HRS.out
      rw [HN.out.1] at hT2
      obtain ⟨b, o, rfl, q1, q2, hc⟩ := hT2.one i hkl
      have c0 := hc wr HB.out
      generalize rs[i] = c at *
      clear hc hT2
      by_cases hlc : 97 ≤ c ∧ c ≤ 122
      · obtain ⟨l1, l2⟩ := hlc
        obtain ⟨e1, e2, e3, e4⟩ := enc_ltr l1 l2
        have hle : ¬ 9223372036854775807 < s.size + (Utf8.encode c).size := by rw [e4]; omega
        have HEN := hide (And.intro e1 (And.intro e2 e4))
        clear e1 e2 e3 e4
        go_wp2_with fail
        go_roundw
        case rel =>
          refine ⟨i + 1, s ++ Utf8.encode c, by go_num, rfl, by omega, by omega, ?_, ?_, HB⟩
          · rw [ByteArray.size_append, HEN.out.2.2]
            omega
          · intro b hb
            rw [app_data, HEN.out.1] at hb
            rcases List.mem_append.1 hb with h9 | h9
            · exact HL.out b h9
            · rw [List.mem_singleton.1 h9]
              exact HEN.out.2.1
        case measure => simp [intOf]; omega
      · have hno : c < 97 ∨ 122 < c := by omega
        go_wp2_with fail
        all_goals
          first
            | (exfalso; omega)
            | (go_roundw
               case rel => exact ⟨i + 1, s, by go_num, rfl, by omega, by omega, by omega, HL, HB⟩
               case measure => simp [intOf]; omega)
    · have hgo : ¬ ((i : Int) < n ∧ (i : Int) < 12) := by omega
      have hsz9 : s.size ≤ 12 := by omega
      clear HRS
      go_upto_region 9 with fail
      all_goals
        go_cut [56] from 55 to 56 (fun bv wx => bv = .bool (decide (s.size = 0)) ∧ Hid (Below w.heap.size w wx))
        case first =>
          by_cases he : s.size = 0
          · obtain rfl : s = ⟨#[]⟩ := by
              apply ByteArray.ext
              apply Array.eq_empty_of_size_eq_zero
              exact he
            go_wp2_with fail
            all_goals
              go_meet
              case rel => exact ⟨rfl, HB⟩
          · have he2 := not_empty (s := s) (by omega)
            have he3 := not_nil (s := s) (by omega)
            go_wp2_with fail
            all_goals
              go_meet
              case rel => exact ⟨by rw [decide_eq_false he], HB⟩
        case rest =>
          clear HB
          obtain ⟨rfl, HB⟩ := hcut
          go_step
          go_cut [7] from 56 to 56 (fun sv wx => ∃ (s : ByteArray), sv = .string s ∧ s.size ≤ 12 ∧ 1 ≤ s.size ∧ Hid (∀ b ∈ s.data.toList, ltr b) ∧ Hid (Below w.heap.size w wx))
          case first =>
            by_cases he : s.size = 0
            · have hd : decide (s.size = 0) = true := decide_eq_true he
              go_wp2_with fail
              go_meet
              case rel => exact ⟨⟨#[113]⟩, rfl, by decide, by decide, (fun b hb => by rw [List.mem_singleton.1 hb]; exact ⟨by decide, by decide⟩), HB⟩
            · have hd : decide (s.size = 0) = false := decide_eq_false he
              go_wp2_with fail
              go_meet
              case rel => exact ⟨s, rfl, hsz9, by omega, HL, HB⟩
          case rest =>
            clear hsz hsz9 HL HB
            obtain ⟨s, rfl, hsz, hs1, HL, HB⟩ := hcut
            have k1 : (⟨#[91]⟩ : ByteArray).size = 1 := rfl
            have k2 : (⟨#[93]⟩ : ByteArray).size = 1 := rfl
            go_upto_region 13 with fail
            go_cut [70] from 60 to 70 (fun bv wx => bv = .bool (decide (97 ≤ lo ∧ hi ≤ 122 ∧ lo ≤ hi)) ∧ Hid (Below w.heap.size w wx))
            case first =>
              by_cases hr : 97 ≤ lo ∧ hi ≤ 122 ∧ lo ≤ hi
              · obtain ⟨r1, r2, r3⟩ := hr
                go_wp2_with fail
                go_meet
                case rel => exact ⟨by rw [decide_eq_true (⟨r1, r2, r3⟩ : 97 ≤ lo ∧ hi ≤ 122 ∧ lo ≤ hi)], HB⟩
              · go_wp2_with fail
                all_goals
                  go_meet
                  case rel =>
                    refine ⟨?_, HB⟩
                    first
                      | (rw [decide_eq_false hr]; done)
                      | (rw [decide_eq_false hr]; congr 1; exact decide_eq_false (by omega))
                      | (rw [decide_eq_false hr]; congr 1; omega)
            case rest =>
              clear HB
              obtain ⟨rfl, HB⟩ := hcut
              go_step
              go_cut [10, 11] from 70 to 81 (fun iv rv wx => ∃ (inb rg : ByteArray) (R : Option (UInt8 × UInt8)), iv = .string inb ∧ rv = .string rg ∧ inb.size ≤ 20 ∧ 1 ≤ inb.size ∧ Hid (inb.data.toList = clsB false s.data.toList R) ∧ Hid (RgSaid R rg lo hi) ∧ Hid (Below w.heap.size w wx))
              case first =>
                by_cases hr : 97 ≤ lo ∧ hi ≤ 122 ∧ lo ≤ hi
                · have hd : decide (97 ≤ lo ∧ hi ≤ 122 ∧ lo ≤ hi) = true := decide_eq_true hr
                  obtain ⟨r1, r2, r3⟩ := hr
                  obtain ⟨e1, e2, e3, e4⟩ := enc_ltr r1 (by omega)
                  obtain ⟨f1, f2, f3, f4⟩ := enc_ltr (c := hi) (by omega) r2
                  have HEN := hide (And.intro e1 (And.intro e2 e3))
                  have HFN := hide (And.intro f1 (And.intro f2 f3))
                  clear e1 e2 e3 f1 f2 f3
                  go_wp2_with fail
                  go_meet
                  case rel =>
                    refine ⟨_, _, some (UInt8.ofNat lo.toNat, UInt8.ofNat hi.toNat), rfl, rfl, ?_, ?_, ?_, ⟨⟨HEN.out.2.1, HFN.out.2.1, ?_⟩, ?_, HEN.out.2.2.symm, HFN.out.2.2.symm⟩, HB⟩
                    · simp only [ByteArray.size_append, e4, f4, k1, k2]
                      have : (⟨#[45]⟩ : ByteArray).size = 1 := rfl
                      omega
                    · simp only [ByteArray.size_append, e4, f4, k1, k2]
                      omega
                    · show _ = clsB false s.data.toList _
                      simp only [app_data, HEN.out.1, HFN.out.1, clsB, tailB]
                      simp
                    · have h1 := HEN.out.2.2
                      have h2 := HFN.out.2.2
                      omega
                    · simp only [ByteArray.size_append, e4, f4]
                      rfl
                · have hd : decide (97 ≤ lo ∧ hi ≤ 122 ∧ lo ≤ hi) = false := decide_eq_false hr
                  go_wp2_with fail
                  go_meet
                  case rel =>
                    refine ⟨_, _, none, rfl, rfl, ?_, ?_, ?_, ⟨trivial, rfl⟩, HB⟩
                    · simp only [ByteArray.size_append, k1, k2]
                      omega
                    · simp only [ByteArray.size_append, k1, k2]
                      omega
                    · show _ = clsB false s.data.toList _
                      simp only [app_data, clsB, tailB]
                      simp
              case rest =>
                clear HB
                obtain ⟨inb, rg, R, rfl, rfl, hi20, hi1', HIN, HRG, HB⟩ := hcut
                obtain ⟨L, hL⟩ : ∃ L, L = s.data.toList := ⟨_, rfl⟩
                have hLl : L.length = s.size := by rw [hL, ← Lib.size_eq]
                have hLne : L ≠ [] := fun e => by rw [e] at hLl; simp at hLl; omega
                have HLL := hL ▸ HL
                rw [← hL] at HIN
                have hc1 := class_comp HLL.out hLne HRG.out.1 (by omega) HIN.out
                have hin2 : ((⟨#[91, 94]⟩ : ByteArray) ++ inb.extract 1 inb.size).data.toList = clsB true L R := by
                  rw [app_data, Lib.extract_data, HIN.out]
                  have h9 : (clsB false L R).length = inb.size := by rw [← HIN.out, ← Lib.size_eq]
                  rw [List.take_of_length_le (by rw [List.length_drop, h9]; omega)]
                  rfl
                have hz2 : ((⟨#[91, 94]⟩ : ByteArray) ++ inb.extract 1 inb.size).size = 2 + (inb.size - 1) := by
                  rw [ByteArray.size_append, ByteArray.size_extract]
                  have : (⟨#[91, 94]⟩ : ByteArray).size = 2 := rfl
                  omega
                have hc2 := class_comp HLL.out hLne HRG.out.1 (by omega) hin2
                obtain ⟨in2, hin⟩ : ∃ in2, in2 = (⟨#[91, 94]⟩ : ByteArray) ++ inb.extract 1 inb.size := ⟨_, rfl⟩
                rw [← hin] at hc2
                have HC1 : Hid (∀ W, Below w.heap.size w W → Calls Tryd.prog 4 #[.string inb] W fun e w' => Below W.heap.size W w' ∧ ∃ p, e = .returned (.tuple #[.pointer (some ⟨p, 0, none⟩), .int .i64 0, .int .i64 0]) ∧ PgS w' (Fresh W.heap.size w'.heap.size) p (.row [.take (clsA L R) false]) 0) := fun W hW => by
                  have h9 := compile_any B inb W (HE.out.below (hW.mono hB)) (Nat.le_trans hB hW.size)
                  rw [hc1] at h9
                  refine h9.mono ?_
                  rintro e w1 ⟨hb1, p, ms, rfl, hms, hpg⟩
                  exact ⟨hb1, p, rfl, ms, hms, hpg⟩
                have HC2 : Hid (∀ W t, t = in2 → Below w.heap.size w W → Calls Tryd.prog 4 #[.string t] W fun e w' => Below W.heap.size W w' ∧ ∃ p, e = .returned (.tuple #[.pointer (some ⟨p, 0, none⟩), .int .i64 0, .int .i64 0]) ∧ PgS w' (Fresh W.heap.size w'.heap.size) p (.row [.take (clsA L R) true]) 0) := fun W t ht hW => by
                  subst ht
                  have h9 := compile_any B t W (HE.out.below (hW.mono hB)) (Nat.le_trans hB hW.size)
                  rw [hc2] at h9
                  refine h9.mono ?_
                  rintro e w1 ⟨hb1, p, ms, rfl, hms, hpg⟩
                  exact ⟨hb1, p, rfl, ms, hms, hpg⟩
                have HI2 := hide hin.symm
                have HK2 : Hid (compR in2 = .ok (.row [.take (clsA L R) true]) 0) := hc2
                have HK1 : Hid (compR inb = .ok (.row [.take (clsA L R) false]) 0) := hc1
                clear hin2 hz2 hc1 hc2 hin
                have HB0 := hide HB.out
                have hge : (1 : Int) ≤ inb.size := by omega
                have k3 : (⟨#[91, 94]⟩ : ByteArray).size = 2 := rfl
                go_upto_region 17 with (go_at_call 4; refine (HC1.out _ HB.out).mono ?_; clear HC1; rintro e w1 ⟨hb1, p, rfl, hp⟩; have HP := hide hp; have HB1 := hide hb1; clear hb1 hp)
                go_upto_region 18 with (go_at_call 4; refine (HC2.out _ _ HI2.out (HB.out.trans (HB1.out.mono HB.out.size))).mono ?_; clear HC2; rintro e w2 ⟨hb2, q, rfl, hq⟩; have HQ := hide hq; have HB2 := hide hb2; clear hb2 hq)
                clear HB HIN hge k1 k2 k3 HI2 hi20 hi1'
                have HBw : Hid (Below w.heap.size w w2) := (HB0.out.trans (HB1.out.mono HB0.out.size)).trans (HB2.out.mono (Nat.le_trans HB0.out.size HB1.out.size))
                have HEW : Hid (∀ W, Below w2.heap.size w2 W → Env8 W B ∧ B ≤ W.heap.size) := fun W hW => ⟨(HE.out.below (HBw.out.mono hB)).below (hW.mono (Nat.le_trans hB HBw.out.size)), Nat.le_trans hB (Nat.le_trans HBw.out.size hW.size)⟩
                have HMP : Hid (∀ W x, Below w2.heap.size w2 W → x.size ≤ 60 → Calls Tryd.prog 7 #[.pointer (some ⟨p, 0, none⟩), .string x] W fun e w' => e = .returned (.bool (memB L R x)) ∧ Below W.heap.size W w') := fun W x hW hx => by
                  have hb : Below w1.heap.size w1 W := HB2.out.trans (hW.mono HB2.out.size)
                  have hp := PgS.below HP.out (fun i hi => hi.2) hb
                  have h9 := match_any B p 0 _ _ x W hp (known_of HK1.out) (fun i hi => Nat.lt_of_lt_of_le hi.2 hb.size) (HEW.out W hW).1 (HEW.out W hW).2 (by omega)
                  rw [class_in HLL.out HRG.out.1] at h9
                  exact h9
                have HMQ : Hid (∀ W x, Below w2.heap.size w2 W → x.size ≤ 60 → Calls Tryd.prog 7 #[.pointer (some ⟨q, 0, none⟩), .string x] W fun e w' => e = .returned (.bool (oneB x && !memB L R x)) ∧ Below W.heap.size W w') := fun W x hW hx => by
                  have hp := PgS.below HQ.out (fun i hi => hi.2) hW
                  have h9 := match_any B q 0 _ _ x W hp (known_of HK2.out) (fun i hi => Nat.lt_of_lt_of_le hi.2 hW.size) (HEW.out W hW).1 (HEW.out W hW).2 (by omega)
                  rw [class_out HLL.out HRG.out.1] at h9
                  exact h9
                have HCU : Hid (Calls Tryd.prog 5 #[.slice la m lc] w2 fun e w' => ∃ (X : List ByteArray) (a : Option Addr) (c : Nat), X.length ≤ 12 ∧ (∀ x ∈ X, x.size ≤ 60) ∧ e = .returned (.slice a X.length c) ∧ RowAt w' (.slice a X.length c) 1 X.length (txC X) ∧ Below w2.heap.size w2 w') := by
                  have h9 := HS.out
                  refine Calls.mono (cut_any _ ss w2 (h9.below HBw.out)) ?_
                  rintro e w' ⟨a, c, h1, h2, h3⟩
                  refine ⟨cutB ss, a, c, by unfold cutB; simp; omega, fun x hx => ?_, h1, RowAt.of_row h2, h3⟩
                  obtain ⟨y, -, rfl⟩ := List.mem_map.1 hx
                  exact clipB_size y
                clear HP HQ HB0 HB1 HB2 HK1 HK2 HS HE
                go_wp2_with (go_at_call 5; refine HCU.out.mono ?_; clear HCU; rintro e w3 ⟨X, xa, xc, hX12, hx60, rfl, hxr, hb3⟩; have HX := hide (And.intro hx60 hxr); have HB3 := hide hb3; clear hx60 hxr hb3)
                have HBw3 : Hid (Below w.heap.size w w3) := HBw.out.trans (HB3.out.mono HBw.out.size)
                obtain ⟨N, hNl⟩ : ∃ N, N = X.length := ⟨_, rfl⟩
                have hN12 : N ≤ 12 := by omega
                clear hX12
                have HNL := hide hNl
                have HX2 : Hid ((∀ x ∈ X, x.size ≤ 60) ∧ RowAt w3 (.slice xa N xc) 1 N (txC X)) := by
                  have h9 := HX.out
                  rw [← hNl] at h9
                  exact h9
                rw [← hNl]
                clear hNl HX
                go_loopw [18, 19, 20, 21, 22] (fun kv _ _ _ _ wx => ∃ k : Nat, kv = .int .i64 k ∧ k ≤ N ∧ Hid (Below w3.heap.size w3 wx)) (fun kv _ _ _ _ _ => N - (intOf kv).toNat)
                case atStart => exact ⟨0, rfl, Nat.zero_le _, Below.refl _ _⟩
                case round =>
                  obtain ⟨k, rfl, hk, HB⟩ := hrel
                  by_cases hkl : k < N
                  · have hkX : k < X.length := by rw [← HNL.out]; exact hkl
                    have hkz : (k : Int) < N := by omega
                    obtain ⟨xb, xo, rfl, hx1⟩ := HX2.out.2.one (j := k) (u := .string X[k]) (by unfold txC; rw [List.getElem?_map, List.getElem?_eq_getElem hkX]; rfl)
                    have c0 := hx1 wr HB.out
                    have hx6 := HX2.out.1 _ (List.getElem_mem hkX)
                    generalize X[k] = x at *
                    clear hx1
                    go_upto_region 25 with fail
                    go_cut [20] from 122 to 141 (fun ov wx => ov = .bool (oneB x) ∧ Hid (Below w3.heap.size w3 wx))
                    case first =>
                      by_cases hx0 : 0 < x.size
                      · have hxz : (0 : Int) < x.size := by omega
                        have HU8 : Hid (∀ W, Calls Tryd.prog 6 #[.string x, .int .i64 0] W fun e w' => e = .returned (.int .i64 (wAt x 0)) ∧ w' = W) := fun W => utf8_any x 0 W (by omega) hx0
                        have ho : oneB x = (decide (wAt x 0 = x.size) || (decide (wAt x 0 = 0) && decide (x.size = 1))) := by unfold oneB; rw [decide_eq_true hx0]; rfl
                        have HO := hide ho
                        clear ho
                        generalize wAt x 0 = A at *
                        by_cases h1 : A = x.size
                        · have h1z : (A : Int) = x.size := by omega
                          go_wp2_with (go_at_call 6; refine (HU8.out _).mono ?_; rintro e w4 ⟨rfl, hw4⟩; have hw4 := hw4.symm; subst hw4)
                          all_goals
                            go_meet
                            case rel => exact ⟨by rw [HO.out, decide_eq_true h1]; simp, HB⟩
                        · have h1z : ¬ (A : Int) = x.size := by omega
                          go_wp2_with (go_at_call 6; refine (HU8.out _).mono ?_; rintro e w4 ⟨rfl, hw4⟩; have hw4 := hw4.symm; subst hw4)
                          all_goals
                            go_meet
                            case rel =>
                              refine ⟨?_, HB⟩
                              rw [HO.out, decide_eq_false h1]
                              congr 1
                              rw [Bool.eq_iff_iff]
                              simp only [Bool.or_eq_true, Bool.and_eq_true, decide_eq_true_eq, beq_iff_eq, Bool.false_eq_true, false_or]
                              omega
                      · have hxz : ¬ (0 : Int) < x.size := by omega
                        go_wp2_with fail
                        all_goals
                          go_meet
                          case rel => exact ⟨by unfold oneB; rw [decide_eq_false hx0]; rfl, HB⟩
                    case rest =>
                      clear HB
                      obtain ⟨rfl, HB⟩ := hcut
                      have HSL : Hid (L = s.data.toList ∧ L.length = s.size) := ⟨hL, hLl⟩
                      go_wp2_with fail
                      go_loopw [21, 22] (fun mv jv wx => ∃ j : Nat, jv = .int .i64 j ∧ j ≤ s.size ∧ mv = .bool (decide (x.size = 1) && memS ((L.take j).map spB) (bAt x 0)) ∧ Hid (Below w3.heap.size w3 wx)) (fun _ jv _ => s.size - (intOf jv).toNat)
                      case atStart => exact ⟨0, rfl, Nat.zero_le _, by simp [memS], HB⟩
                      case round =>
                        clear HB
                        obtain ⟨j, rfl, hj, rfl, HB⟩ := hrel
                        by_cases hjl : j < s.size
                        · have hjz : (j : Int) < s.size := by omega
                          have hjz2 : (j : Int) + 1 ≤ s.size := by omega
                          have hst := mem_step x HSL.out.1 hjl
                          generalize (decide (x.size = 1) && memS ((L.take j).map spB) (bAt x 0)) = M at *
                          have HST := hide hst
                          clear hst
                          cases M with
                          | true =>
                            go_wp2_with fail
                            go_roundw
                            case rel => exact ⟨j + 1, by go_num, by omega, by rw [HST.out]; rfl, HB⟩
                            case measure => simp [intOf]; omega
                          | false =>
                            go_wp2_with fail
                            go_roundw
                            case rel => exact ⟨j + 1, by go_num, by omega, by rw [HST.out]; rfl, HB⟩
                            case measure => simp [intOf]; omega
                        · obtain rfl : j = s.size := by omega
                          have htk : L.take s.size = L := List.take_of_length_le (by rw [HSL.out.2]; exact Nat.le_refl _)
                          rw [htk]
                          have hmp := memB_parts L R x
                          generalize (decide (x.size = 1) && memS (L.map spB) (bAt x 0)) = G at *
                          have HMB := hide hmp
                          clear hmp htk
                          go_upto_region 31 with fail
                          go_cut [178] from 158 to 178 (fun bv wx => bv = .bool (decide (x.size = 1) && memS (tailA R) (bAt x 0)) ∧ Hid (Below w3.heap.size w3 wx))
                          case first =>
                            by_cases hx1 : x.size = 1
                            · have hxz : (x.size : Int) = 1 := by omega
                              have hxz1 : (0 : Int) < x.size := by omega
                              obtain ⟨hRk, hRm⟩ := HRG.out
                              cases R with
                              | none =>
                                have hRm : rg = ⟨#[]⟩ := hRm
                                subst hRm
                                go_wp2_with fail
                                go_meet
                                case rel => exact ⟨by rw [decide_eq_true hx1]; rfl, HB⟩
                              | some ab =>
                                obtain ⟨a, b⟩ := ab
                                obtain ⟨hr3, hra, hrb⟩ := hRm
                                have he2 := not_empty (s := rg) (by omega)
                                have he3 := not_nil (s := rg) (by omega)
                                obtain ⟨la1, lb1, hab⟩ := hRk
                                unfold ltr at la1 lb1
                                have hwa : IntKind.u8.wrap lo = lo := by rw [hra]; simp only [IntKind.wrap_u8]; omega
                                have hwb : IntKind.u8.wrap hi = hi := by rw [hrb]; simp only [IntKind.wrap_u8]; omega
                                have HAB := hide (And.intro hra hrb)
                                clear hra hrb
                                go_wp2_with fail
                                all_goals
                                  go_meet
                                  case rel =>
                                    refine ⟨?_, HB⟩
                                    have hT : (decide (x.size = 1) && memS (tailA (some (a, b))) (bAt x 0)) = (decide ((a.toNat : Int) ≤ bAt x 0) && decide ((bAt x 0 : Int) ≤ b.toNat)) := by
                                      rw [decide_eq_true hx1]
                                      simp [tailA, memS]
                                    rw [hT, ← HAB.out.1, ← HAB.out.2]
                                    have hb0 := bAt_eq (s := x) (i := 0) (by omega)
                                    rw [← hb0]
                                    congr 1
                                    rw [Bool.eq_iff_iff]
                                    simp only [Bool.and_eq_true, decide_eq_true_eq, Bool.false_eq_true]
                                    first | omega | exact ⟨fun h => h.elim, fun h => by omega⟩
                            · have hxz : ¬ (x.size : Int) = 1 := by omega
                              go_wp2_with fail
                              go_meet
                              case rel => exact ⟨by rw [decide_eq_false hx1]; rfl, HB⟩
                          case rest =>
                            clear HB
                            obtain ⟨rfl, HB⟩ := hcut
                            generalize (decide (x.size = 1) && memS (tailA R) (bAt x 0)) = T at *
                            go_step
                            go_cut [21] from 178 to 178 (fun mv wx => mv = .bool (memB L R x) ∧ Hid (Below w3.heap.size w3 wx))
                            case first =>
                              cases T with
                              | true =>
                                go_wp2_with fail
                                go_meet
                                case rel => exact ⟨by rw [HMB.out, Bool.or_true], HB⟩
                              | false =>
                                go_wp2_with fail
                                go_meet
                                case rel => exact ⟨by rw [HMB.out, Bool.or_false], HB⟩
                            case rest =>
                              clear HB
                              obtain ⟨rfl, HB⟩ := hcut
                              have HB33 := hide HB.out
                              clear HMB HRG HSL
                              generalize hMM : memB L R x = MM at *
                              generalize hOO : oneB x = OO at *
                              have HM1 : Hid (∀ W, Below w2.heap.size w2 W → Calls Tryd.prog 7 #[.pointer (some ⟨p, 0, none⟩), .string x] W fun e w' => e = .returned (.bool MM) ∧ Below W.heap.size W w') := fun W hW => by rw [← hMM]; exact HMP.out W x hW hx6
                              have HM2 : Hid (∀ W, Below w2.heap.size w2 W → Calls Tryd.prog 7 #[.pointer (some ⟨q, 0, none⟩), .string x] W fun e w' => e = .returned (.bool (OO && !MM)) ∧ Below W.heap.size W w') := fun W hW => by rw [← hMM, ← hOO]; exact HMQ.out W x hW hx6
                              clear hMM hOO HB
                              cases OO <;> cases MM
                              all_goals
                                go_wp2_with (first
                                  | (go_at_call 7; refine (HM1.out _ (HB3.out.trans (HB33.out.mono HB3.out.size))).mono ?_; clear HM1; rintro e w5 ⟨rfl, hb5⟩; have HB5 : Hid (Below w3.heap.size w3 w5) := HB33.out.trans (hb5.mono HB33.out.size); clear hb5)
                                  | (go_at_call 7; refine (HM2.out _ (HB3.out.trans (HB5.out.mono HB3.out.size))).mono ?_; clear HM2; rintro e w6 ⟨rfl, hb6⟩; have HB6 : Hid (Below w3.heap.size w3 w6) := HB5.out.trans (hb6.mono HB5.out.size); clear hb6))
                                go_roundw
                                case rel => exact ⟨k + 1, by go_num, by omega, HB6⟩
                                case measure => simp [intOf]; omega
                  · have hkz : ¬ (k : Int) < N := by omega
                    clear HMP HMQ
                    have HWK : Hid (Calls Tryd.prog 8 #[] wr fun e w' => e = .returned (.bool true) ∧ Below wr.heap.size wr w') := by
                      obtain ⟨g1, g2⟩ := HEW.out wr (HB3.out.trans (HB.out.mono HB3.out.size))
                      exact wakes_any B wr g1 g2
                    go_wp2_with (go_at_call 8; refine HWK.out.mono ?_; clear HWK; rintro e w9 ⟨rfl, hb9⟩; have HB9 := hide hb9; clear hb9)
                    go_ret
                    exact ⟨rfl, HBw3.out.trans ((HB.out.trans (HB9.out.mono HB.out.size)).mono HBw3.out.size)⟩
end Go.Proofs.YtjefpmahdnppjaaDoor
