/- Texts that belong together. -/
import Derived.Test.YtmbkcmfcdjccoaaDoorMP62
import Derived.Test.YtmbkcmfcdjccoaaDoorSg
import Derived.Test.YtmbkcmfcdjccoaaDoorMP61
import Derived.Shelf.Strings.BuilderK
/- A text, quoted, into a Builder: the program's. -/
namespace Go.Proofs.YtmbkcmfcdjccoaaDoor
open Go.RowKit

/-- A Builder that holds these bytes. -/
def Bd (B b : Nat) (bs : List UInt8) (w : World) : Prop := Lib.IsBuilderF 49 5 B b (Lib.byteCells bs) w
theorem byteCells_append (a b : List UInt8) : Lib.byteCells (a ++ b) = Lib.byteCells a ++ Lib.byteCells b := by simp [Lib.byteCells]
theorem wb_any (B b : Nat) (bs : List UInt8) (c : UInt8) (n : Int) (hn : (c.toNat : Int) = n) (w : World) (h : Bd B b bs w) (hl : bs.length ≤ 1000000000) (hB : B ≤ w.heap.size) :
    Calls Tryd.prog 23 #[.pointer (some ⟨b, 0, none⟩), .int .u8 n] w fun e w' => e = .returned .nilIface ∧ Bd B b (bs ++ [c]) w' ∧ Below B w w' := by
  subst hn
  refine (Any.Builder_WriteByte_k Tryd.bwb Tryd.bwb_x B b (Lib.byteCells bs) c.toNat w h (by rw [Lib.byteCells_length]; omega) hB).mono ?_
  rintro e w' ⟨he, h1, h2, h3⟩
  refine ⟨he, Or.inr ?_, h2⟩
  rw [byteCells_append]
  exact h1
theorem ws_any (B b : Nat) (bs : List UInt8) (s : ByteArray) (w : World) (h : Bd B b bs w) (hl : bs.length ≤ 1000000000) (hs : s.size ≤ 1000000000) (hB : B ≤ w.heap.size) :
    Calls Tryd.prog 21 #[.pointer (some ⟨b, 0, none⟩), .string s] w fun e w' => e = .returned (.tuple #[.int .i64 s.size, .nilIface]) ∧ Bd B b (bs ++ s.data.toList) w' ∧ Below B w w' := by
  refine (Any.Builder_WriteString_k Tryd.bws Tryd.bws_x B b (Lib.byteCells bs) s w h (by rw [Lib.byteCells_length]; omega) hB).mono ?_
  rintro e w' ⟨he, h1, h2, h3⟩
  refine ⟨he, Or.inr ?_, h2⟩
  rw [byteCells_append]
  exact h1
theorem Bd.fresh (w : World) : Bd w.heap.size w.heap.size [] (w.alloc (.cells #[.pointer none, .slice none 0 0] 49 (0, 0))) :=
  Or.inl ⟨Nat.le_refl _, .slice none 0 0, heap_alloc_new w _, ⟨rfl, Or.inl ⟨rfl, rfl⟩⟩, by simp [Value.ownBlock]⟩
theorem qB_length (c : UInt8) : (qB c).length ≤ 2 := by
  unfold qB
  repeat' split
  all_goals simp
theorem quL_length (s : List UInt8) : (quL s).length ≤ 2 * s.length := by
  unfold quL
  induction s with
  | nil => simp
  | cons c t ih =>
    have := qB_length c
    rw [List.flatMap_cons, List.length_append, List.length_cons]
    omega
theorem quL_succ (s : List UInt8) (k : Nat) (hk : k < s.length) : quL (s.take (k + 1)) = quL (s.take k) ++ qB s[k] := by
  unfold quL
  rw [List.take_succ_eq_append_getElem hk, List.flatMap_append]
  simp
theorem qB_plain {c : UInt8} (h1 : c ≠ 10) (h2 : c ≠ 9) (h3 : c ≠ 13) : qB c = if specB c = true then [92, c] else [c] := by unfold qB; rw [if_neg h1, if_neg h2, if_neg h3]
theorem byte_ne {c : UInt8} {n : Nat} (hn : n < 256) (h : c ≠ n.toUInt8) : ¬ (c.toNat : Int) = n := fun e => h (UInt8.toNat_inj.1 (by
  have : c.toNat = n := by omega
  rw [this]
  simp
  omega))

set_option maxRecDepth 100000 in
set_option maxHeartbeats 4000000 in
theorem quote_any (s : ByteArray) (w : World) (hs : s.size ≤ 60) :
    Calls Tryd.prog 9 #[.string s] w fun e w' => e = .returned (.string ⟨(quL s.data.toList).toArray⟩) ∧ Below w.heap.size w w' := by
  have HB1 : Hid (Bd w.heap.size w.heap.size [] (w.alloc (.cells #[.pointer none, .slice none 0 0] 49 (0, 0)))) := Bd.fresh w
  have HS2 : Hid (w.heap.size ≤ (w.alloc (.cells #[.pointer none, .slice none 0 0] 49 (0, 0))).heap.size) := by show _ ≤ _; simp
  have HK2 : Hid (Below w.heap.size w (w.alloc (.cells #[.pointer none, .slice none 0 0] 49 (0, 0)))) := (Below.refl _ _).alloc (Nat.le_refl _) _
  go_enter Tryd.func9, Tryd.ntmps9
  go_wp2
  go_loopw [8] (fun i wr => ∃ k : Nat, k ≤ s.size ∧ i = .int .i64 k ∧ Hid (Bd w.heap.size w.heap.size (quL (s.data.toList.take k)) wr) ∧ Hid (Below w.heap.size w wr)) (fun i _ => s.size - (intOf i).toNat)
  case atStart => exact ⟨0, Nat.zero_le _, rfl, HB1, HK2⟩
  case round =>
    clear HB1 HK2 HS2
    obtain ⟨k, hk, rfl, hBd, hBK⟩ := hrel
    have hle : (quL (s.data.toList.take k)).length ≤ 1000 := by
      have h1 := quL_length (s.data.toList.take k)
      have h2 : (s.data.toList.take k).length = k := by rw [List.length_take, Array.length_toList]; exact Nat.min_eq_left hk
      rw [h2] at h1
      omega
    have hsz : w.heap.size ≤ wr.heap.size := hBK.out.size
    by_cases hlt : k < s.size
    · have hlt' : k < s.data.toList.length := by rw [Array.length_toList]; exact hlt
      have HE : Hid (quL (s.data.toList.take (k + 1)) = quL (s.data.toList.take k) ++ qB s[k]) := quL_succ _ k hlt'
      generalize quL (s.data.toList.take k) = bs' at *
      have hcl := s[k].toNat_lt
      obtain ⟨c, hc⟩ : ∃ c, c = s[k] := ⟨_, rfl⟩
      rw [← hc] at HE hcl
      have hcN : s[k].toNat = c.toNat := by rw [hc]
      clear hc
      have hB0 := hBd.out
      have hBK0 := hBK.out
      clear hBd hBK
      have hfin : Hid (∀ x W, qB c = x → Bd w.heap.size w.heap.size (bs' ++ x) W → Bd w.heap.size w.heap.size (quL (s.data.toList.take (k + 1))) W) := fun x W e hh => by
        rw [HE.out, e]
        exact hh
      clear HE
      by_cases h10 : c = 10
      · subst h10
        have hcN' : s[k].toNat = 10 := hcN
        clear hcN hcl
        go_wp2_with (go_at_call 21; refine (ws_any w.heap.size w.heap.size bs' ⟨#[92, 110]⟩ wr hB0 (by omega) (by decide) hsz).mono ?_; clear hB0; rintro e w1 ⟨rfl, hB1, hk1⟩)
        go_roundw
        case rel => exact ⟨k + 1, by omega, by go_num, hfin.out _ _ (by decide) hB1, hBK0.trans hk1⟩
        case measure => simp [intOf]; omega
      · by_cases h9 : c = 9
        · subst h9
          have hcN' : s[k].toNat = 9 := hcN
          clear hcN hcl h10
          go_wp2_with (go_at_call 21; refine (ws_any w.heap.size w.heap.size bs' ⟨#[92, 116]⟩ wr hB0 (by omega) (by decide) hsz).mono ?_; clear hB0; rintro e w1 ⟨rfl, hB1, hk1⟩)
          go_roundw
          case rel => exact ⟨k + 1, by omega, by go_num, hfin.out _ _ (by decide) hB1, hBK0.trans hk1⟩
          case measure => simp [intOf]; omega
        · by_cases h13 : c = 13
          · subst h13
            have hcN' : s[k].toNat = 13 := hcN
            clear hcN hcl h10 h9
            go_wp2_with (go_at_call 21; refine (ws_any w.heap.size w.heap.size bs' ⟨#[92, 114]⟩ wr hB0 (by omega) (by decide) hsz).mono ?_; clear hB0; rintro e w1 ⟨rfl, hB1, hk1⟩)
            go_roundw
            case rel => exact ⟨k + 1, by omega, by go_num, hfin.out _ _ (by decide) hB1, hBK0.trans hk1⟩
            case measure => simp [intOf]; omega
          · have n1 : ¬ (c.toNat : Int) = 10 := byte_ne (n := 10) (by decide) h10
            have n2 : ¬ (c.toNat : Int) = 9 := byte_ne (n := 9) (by decide) h9
            have n3 : ¬ (c.toNat : Int) = 13 := byte_ne (n := 13) (by decide) h13
            have HQ := hide (qB_plain h10 h9 h13)
            have HSP : Hid (∀ W, Calls Tryd.prog 22 #[.int .u8 c.toNat] W fun e w' => e = .returned (.bool (specB c)) ∧ w' = W) := fun W => special_any c W
            have HW1 : Hid (∀ W, Bd w.heap.size w.heap.size bs' W → w.heap.size ≤ W.heap.size → Calls Tryd.prog 23 #[.pointer (some ⟨w.heap.size, 0, none⟩), .int .u8 c.toNat] W fun e w' => e = .returned .nilIface ∧ Bd w.heap.size w.heap.size (bs' ++ [c]) w' ∧ Below w.heap.size W w') := fun W h1 h2 => wb_any _ _ bs' c _ rfl W h1 (by omega) h2
            have HW2 : Hid (∀ W, Bd w.heap.size w.heap.size (bs' ++ [92]) W → w.heap.size ≤ W.heap.size → Calls Tryd.prog 23 #[.pointer (some ⟨w.heap.size, 0, none⟩), .int .u8 c.toNat] W fun e w' => e = .returned .nilIface ∧ Bd w.heap.size w.heap.size (bs' ++ [92] ++ [c]) w' ∧ Below w.heap.size W w') := fun W h1 h2 => wb_any _ _ (bs' ++ [92]) c _ rfl W h1 (by simp; omega) h2
            have HW0 := hide hB0
            clear h10 h9 h13 hB0
            generalize c.toNat = cN at *
            generalize specB c = sp at *
            cases sp with
            | true =>
              go_wp2_with (first
                | (go_at_call 22; refine (HSP.out _).mono ?_; clear HSP; rintro e w0 ⟨rfl, hw⟩; have hw := hw.symm; subst hw)
                | (go_at_call 23; refine (wb_any w.heap.size w.heap.size bs' 92 92 rfl _ HW0.out (by omega) hsz).mono ?_; clear HW0; rintro e w1 ⟨rfl, hB1, hk1⟩; have hsz1 := Nat.le_trans hsz hk1.size; have HB9 := hide hB1; clear hB1)
                | (go_at_call 23; refine (HW2.out _ HB9.out hsz1).mono ?_; clear HW2 HB9; rintro e w2 ⟨rfl, hB2, hk2⟩; have HB8 := hide hB2; clear hB2))
              go_roundw
              case rel => exact ⟨k + 1, by omega, by go_num, hfin.out _ _ HQ.out (by have := HB8.out; rw [List.append_assoc] at this; exact this), (hBK0.trans hk1).trans hk2⟩
              case measure => simp [intOf]; omega
            | false =>
              go_wp2_with (first
                | (go_at_call 22; refine (HSP.out _).mono ?_; clear HSP; rintro e w0 ⟨rfl, hw⟩; have hw := hw.symm; subst hw)
                | (go_at_call 23; refine (HW1.out _ HW0.out hsz).mono ?_; clear HW1 HW0; rintro e w1 ⟨rfl, hB1, hk1⟩; have HB9 := hide hB1; clear hB1))
              go_roundw
              case rel => exact ⟨k + 1, by omega, by go_num, hfin.out _ _ HQ.out HB9.out, hBK0.trans hk1⟩
              case measure => simp [intOf]; omega
    · have HE : Hid (quL (s.data.toList.take k) = quL s.data.toList) := by
        show _ = _
        rw [List.take_of_length_le (by rw [Array.length_toList]; exact Nat.le_of_not_lt hlt)]
      rw [HE.out] at hBd
      have hB0 := hBd.out
      have hBK0 := hBK.out
      go_wp2_with (go_at_call 24; refine (Any.Builder_String_any_k Tryd.bst Tryd.bst_x _ _ _ _ hB0 hsz).mono ?_; rintro e w5 ⟨rfl, hB5, hk5, hk6⟩)
      go_ret
      exact ⟨rfl, hBK0.trans hk5⟩
end Go.Proofs.YtmbkcmfcdjccoaaDoor

/- The document's own quoting. -/
namespace Go.Proofs.YtmbkcmfcdjccoaaDoor
open Go.RowKit

def allB : ByteArray := ⟨#[92, 46, 43, 42, 63, 40, 41, 124, 91, 93, 123, 125, 94, 36]⟩
theorem spec_all (c : UInt8) : specB c = allB.data.toList.contains c := rfl
theorem spec_hit {c : UInt8} {k : Nat} (hk : k < allB.size) (h : ((allB[k].toNat : Int) == c.toNat) = true) : specB c = true := by
  have h1 : (allB[k].toNat : Int) = c.toNat := eq_of_beq h
  have h2 : allB[k] = c := UInt8.toNat_inj.1 (by omega)
  rw [spec_all, List.contains_iff_mem, ← h2]
  show allB.data[k] ∈ allB.data.toList
  simp
theorem spec_miss {c : UInt8} {k : Nat} (hk : k < allB.size) (h : ((allB[k].toNat : Int) == c.toNat) = false) (hA : ∀ j, j < k → allB.data.toList.getD j 0 ≠ c) : ∀ j, j < k + 1 → allB.data.toList.getD j 0 ≠ c := fun j hj => by
  rcases Nat.lt_succ_iff_lt_or_eq.1 hj with h1 | h1
  · exact hA j h1
  · subst h1
    intro e
    have h2 : allB[j] = c := by
      rw [← e]
      show allB.data[j] = _
      have hjl : j < allB.data.toList.length := by rw [Array.length_toList]; exact hk
      rw [List.getD_eq_getElem?_getD, List.getElem?_eq_getElem hjl]
      simp
    rw [h2] at h
    simp at h
theorem spec_none {c : UInt8} (hA : ∀ j, j < 14 → allB.data.toList.getD j 0 ≠ c) : specB c = false := by
  rw [spec_all]
  cases h : allB.data.toList.contains c with
  | false => rfl
  | true =>
    rw [List.contains_iff_mem] at h
    obtain ⟨i, hi⟩ := List.mem_iff_getElem?.1 h
    have hl : i < 14 := (List.getElem?_eq_some_iff.1 hi).1
    exact absurd (by rw [List.getD_eq_getElem?_getD, hi]; rfl) (hA i hl)
set_option maxRecDepth 100000 in
theorem refSpecial_any (c : UInt8) (w : World) : Calls Tryd.prog 28 #[.int .u8 c.toNat] w fun e w' => e = .returned (.bool (specB c)) ∧ w' = w := by
  have hcl := c.toNat_lt
  go_enter Tryd.func28, Tryd.ntmps28
  go_wp2
  go_loop [3] (fun i => ∃ k : Nat, k ≤ 14 ∧ i = .int .i64 k ∧ Hid (∀ j, j < k → allB.data.toList.getD j 0 ≠ c)) (fun i => 14 - (intOf i).toNat)
  case atStart => exact ⟨0, Nat.zero_le _, rfl, fun j hj => absurd hj (Nat.not_lt_zero _)⟩
  case round =>
    obtain ⟨k, hk, rfl, HA⟩ := hrel
    by_cases hlt : k < 14
    · have hz : (k : Int) < 14 := by omega
      have hkA : k < allB.size := hlt
      have HT : Hid (((allB[k].toNat : Int) == c.toNat) = true → specB c = true) := spec_hit hkA
      have HF : Hid (((allB[k].toNat : Int) == c.toNat) = false → ∀ j, j < k + 1 → allB.data.toList.getD j 0 ≠ c) := fun h => spec_miss hkA h HA.out
      go_wp2
      all_goals first
        | (go_ret; exact ⟨ret_bool (HT.out (by assumption)).symm, rfl⟩)
        | (have HN := hide (HF.out (by assumption))
           go_round
           case rel => exact ⟨k + 1, by omega, by go_num, HN⟩
           case measure => simp [intOf]; omega)
    · obtain rfl : k = 14 := by omega
      have HN := hide (spec_none HA.out)
      clear HA
      go_wp2
      go_ret
      exact ⟨ret_bool HN.out.symm, rfl⟩

theorem ext_one (s : ByteArray) (k : Nat) (h : k < s.size) : (s.extract k (k + 1)).data.toList = [s[k]] := by
  have hl : k < s.data.toList.length := by rw [Array.length_toList]; exact h
  rw [Lib.extract_data, show k + 1 - k = 1 by omega, List.drop_eq_getElem_cons hl]
  show [s.data.toList[k]] = [s.data[k]]
  simp
theorem add_data (a b : ByteArray) : (a ++ b).data.toList = a.data.toList ++ b.data.toList := by simp
theorem qB_spec {c : UInt8} (h : specB c = true) : qB c = [92, c] := by
  have h1 : ∀ d : UInt8, specB d = false → c ≠ d := fun d hd e => by
    subst e
    rw [h] at hd
    cases hd
  rw [qB_plain (h1 10 (by decide)) (h1 9 (by decide)) (h1 13 (by decide)), if_pos h]
set_option maxRecDepth 100000 in
set_option maxHeartbeats 4000000 in
theorem refQuote_any (s : ByteArray) (w : World) (hs : s.size ≤ 60) :
    Calls Tryd.prog 11 #[.string s] w fun e w' => e = .returned (.string ⟨(quL s.data.toList).toArray⟩) ∧ Below w.heap.size w w' := by
  go_enter Tryd.func11, Tryd.ntmps11
  go_wp2
  go_loopw [3, 4] (fun ov i wr => ∃ (k : Nat) (o : ByteArray), k ≤ s.size ∧ i = .int .i64 k ∧ ov = .string o ∧ o.size ≤ 2 * k ∧ Hid (o.data.toList = quL (s.data.toList.take k)) ∧ Hid (Below w.heap.size w wr)) (fun _ i _ => s.size - (intOf i).toNat)
  case atStart => exact ⟨0, ⟨#[]⟩, Nat.zero_le _, rfl, rfl, Nat.zero_le _, rfl, Below.refl _ _⟩
  case round =>
    obtain ⟨k, o, hk, rfl, rfl, ho, HO, HB⟩ := hrel
    by_cases hlt : k < s.size
    · have hz : (k : Int) < s.size := by omega
      have hlt' : k < s.data.toList.length := by rw [Array.length_toList]; exact hlt
      have hE : quL (s.data.toList.take (k + 1)) = quL (s.data.toList.take k) ++ qB s[k] := quL_succ _ k hlt'
      obtain ⟨c, hc⟩ : ∃ c, c = s[k] := ⟨_, rfl⟩
      have HX : Hid ((s.extract k (k + 1)).data.toList = [c]) := by rw [hc]; exact ext_one s k hlt
      have hx1 : (s.extract k (k + 1)).size = 1 := by rw [Lib.size_eq, HX.out]; rfl
      rw [← hc] at hE
      have hcN : s[k].toNat = c.toNat := by rw [hc]
      clear hc
      have HF : Hid (∀ b : ByteArray, b.data.toList = o.data.toList ++ qB c → b.data.toList = quL (s.data.toList.take (k + 1))) := fun b h => by rw [h, hE, HO.out]
      have hl1 : (⟨#[92]⟩ : ByteArray).size = 1 := rfl
      have hl2 : (⟨#[92, 110]⟩ : ByteArray).size = 2 := rfl
      have hl3 : (⟨#[92, 116]⟩ : ByteArray).size = 2 := rfl
      have hl4 : (⟨#[92, 114]⟩ : ByteArray).size = 2 := rfl
      have HSP : Hid (∀ W, Calls Tryd.prog 28 #[.int .u8 c.toNat] W fun e w' => e = .returned (.bool (specB c)) ∧ w' = W) := fun W => refSpecial_any c W
      clear hE
      have hz1 : (k : Int) + 1 ≤ s.size := by omega
      have hszX : ∀ b : ByteArray, b.size ≤ 4 → (o ++ b).size ≤ 2 * k + 4 := fun b h => by rw [ByteArray.size_append]; omega
      have hle0 : ¬ 9223372036854775807 < o.size + (⟨#[92]⟩ : ByteArray).size := by omega
      have hle1 : ¬ 9223372036854775807 < (o ++ (⟨#[92]⟩ : ByteArray)).size + (s.extract k (k + 1)).size := by rw [ByteArray.size_append]; omega
      have hle2 : ¬ 9223372036854775807 < o.size + (s.extract k (k + 1)).size := by omega
      cases hsp : specB c with
      | true =>
        have HQ := hide (qB_spec hsp)
        rw [hsp] at HSP
        go_wp2_with (go_at_call 28; refine (HSP.out _).mono ?_; clear HSP; rintro e w0 ⟨rfl, hw⟩; have hw := hw.symm; subst hw)
        go_roundw
        case rel => exact ⟨k + 1, _, by omega, by go_num, rfl, by rw [ByteArray.size_append, ByteArray.size_append]; omega, HF.out _ (by rw [add_data, add_data, HX.out, HQ.out]; simp), HB⟩
        case measure => simp [intOf]; omega
      | false =>
        rw [hsp] at HSP
        by_cases h10 : c = 10
        · subst h10
          have hcN' : s[k].toNat = 10 := hcN
          go_wp2_with (go_at_call 28; refine (HSP.out _).mono ?_; clear HSP; rintro e w0 ⟨rfl, hw⟩; have hw := hw.symm; subst hw)
          go_roundw
          case rel => exact ⟨k + 1, _, by omega, by go_num, rfl, by rw [ByteArray.size_append]; omega, HF.out _ (by rw [add_data]; rfl), HB⟩
          case measure => simp [intOf]; omega
        · by_cases h9 : c = 9
          · subst h9
            have hcN' : s[k].toNat = 9 := hcN
            go_wp2_with (go_at_call 28; refine (HSP.out _).mono ?_; clear HSP; rintro e w0 ⟨rfl, hw⟩; have hw := hw.symm; subst hw)
            go_roundw
            case rel => exact ⟨k + 1, _, by omega, by go_num, rfl, by rw [ByteArray.size_append]; omega, HF.out _ (by rw [add_data]; rfl), HB⟩
            case measure => simp [intOf]; omega
          · by_cases h13 : c = 13
            · subst h13
              have hcN' : s[k].toNat = 13 := hcN
              go_wp2_with (go_at_call 28; refine (HSP.out _).mono ?_; clear HSP; rintro e w0 ⟨rfl, hw⟩; have hw := hw.symm; subst hw)
              go_roundw
              case rel => exact ⟨k + 1, _, by omega, by go_num, rfl, by rw [ByteArray.size_append]; omega, HF.out _ (by rw [add_data]; rfl), HB⟩
              case measure => simp [intOf]; omega
            · have n1 : ¬ (c.toNat : Int) = 10 := byte_ne (n := 10) (by decide) h10
              have n2 : ¬ (c.toNat : Int) = 9 := byte_ne (n := 9) (by decide) h9
              have n3 : ¬ (c.toNat : Int) = 13 := byte_ne (n := 13) (by decide) h13
              have HQ : Hid (qB c = [c]) := by
                show _ = _
                rw [qB_plain h10 h9 h13, if_neg (by rw [hsp]; decide)]
              clear h10 h9 h13
              generalize c.toNat = cN at *
              go_wp2_with (go_at_call 28; refine (HSP.out _).mono ?_; clear HSP; rintro e w0 ⟨rfl, hw⟩; have hw := hw.symm; subst hw)
              go_roundw
              case rel => exact ⟨k + 1, _, by omega, by go_num, rfl, by rw [ByteArray.size_append]; omega, HF.out _ (by rw [add_data, HX.out, HQ.out]), HB⟩
              case measure => simp [intOf]; omega
    · have HE : Hid (⟨(quL s.data.toList).toArray⟩ = o) := by
        show _ = _
        have h9 := HO.out
        rw [List.take_of_length_le (by rw [Array.length_toList]; exact Nat.le_of_not_lt hlt)] at h9
        apply ByteArray.ext
        apply Array.toList_inj.1
        rw [h9]
      have hz : ¬ (k : Int) < s.size := by omega
      go_wp2
      go_ret
      exact ⟨by rw [HE.out]; rfl, HB.out⟩
end Go.Proofs.YtmbkcmfcdjccoaaDoor
