/- A text, written into a Builder: quoted values. -/
import Derived.Test.YtlfcnekmdojabaaDoorSb
import Derived.Test.YtlfcnekmdojabaaDoorL6
import Derived.Shelf.Strings.BuilderK
namespace Go.Proofs.YtlfcnekmdojabaaDoor
open Go.RowKit

/-- A Builder that holds these bytes. -/
def Bd (B b : Nat) (bs : List UInt8) (w : World) : Prop := Lib.IsBuilderF 48 5 B b (Lib.byteCells bs) w
/-- What its methods leave as it was. -/
structure BK (B b : Nat) (w w' : World) : Prop where
  below : Below B w w'
  others : Lib.OthersKept 5 (some b) w w'
theorem BK.refl (B b : Nat) (w : World) : BK B b w w := ⟨Below.refl _ _, Lib.OthersKept.refl _ _ _⟩
theorem BK.trans {B b : Nat} {x y z : World} (h : BK B b x y) (k : BK B b y z) : BK B b x z := ⟨h.below.trans k.below, h.others.trans k.others⟩

theorem byteCells_append (a b : List UInt8) : Lib.byteCells (a ++ b) = Lib.byteCells a ++ Lib.byteCells b := by simp [Lib.byteCells]

theorem wb_any (B b : Nat) (bs : List UInt8) (c : UInt8) (w : World) (h : Bd B b bs w) (hl : bs.length ≤ 1000000000) (hB : B ≤ w.heap.size) :
    Calls Tryd.prog 25 #[.pointer (some ⟨b, 0, none⟩), .int .u8 c.toNat] w fun e w' => e = .returned .nilIface ∧ Bd B b (bs ++ [c]) w' ∧ BK B b w w' := by
  refine (Any.Builder_WriteByte_k Tryd.lays167 Tryd.Builder_Extra_167 B b (Lib.byteCells bs) c.toNat w h (by rw [Lib.byteCells_length]; omega) hB).mono ?_
  rintro e w' ⟨he, h1, h2, h3⟩
  refine ⟨he, Or.inr ?_, h2, h3⟩
  rw [byteCells_append]
  exact h1
theorem ws_any (B b : Nat) (bs : List UInt8) (s : ByteArray) (w : World) (h : Bd B b bs w) (hl : bs.length ≤ 1000000000) (hs : s.size ≤ 1000000000) (hB : B ≤ w.heap.size) :
    Calls Tryd.prog 24 #[.pointer (some ⟨b, 0, none⟩), .string s] w fun e w' => e = .returned (.tuple #[.int .i64 s.size, .nilIface]) ∧ Bd B b (bs ++ s.data.toList) w' ∧ BK B b w w' := by
  refine (Any.Builder_WriteString_k Tryd.lays166 Tryd.Builder_Extra_166 B b (Lib.byteCells bs) s w h (by rw [Lib.byteCells_length]; omega) hB).mono ?_
  rintro e w' ⟨he, h1, h2, h3⟩
  refine ⟨he, Or.inr ?_, h2, h3⟩
  rw [byteCells_append]
  exact h1

def esc (c : UInt8) : List UInt8 := if c = 34 ∨ c = 92 then [92, c] else if c = 10 then [92, 110] else [c]
def quoteL (s : List UInt8) : List UInt8 := [34] ++ s.flatMap esc ++ [34]
theorem esc_length (c : UInt8) : (esc c).length ≤ 2 := by
  unfold esc
  split
  · simp
  · split <;> simp
theorem escs_length (s : List UInt8) : (s.flatMap esc).length ≤ 2 * s.length := by
  induction s with
  | nil => simp
  | cons a t ih =>
    have := esc_length a
    rw [List.flatMap_cons, List.length_append, List.length_cons]
    omega
theorem escs_succ (s : List UInt8) (k : Nat) (hk : k < s.length) : (s.take (k + 1)).flatMap esc = (s.take k).flatMap esc ++ esc s[k] := by
  rw [List.take_succ_eq_append_getElem hk, List.flatMap_append]
  simp

theorem esc_quote {c : UInt8} (h : c = 34 ∨ c = 92) : esc c = [92, c] := by unfold esc; rw [if_pos h]
theorem esc_line {c : UInt8} (h : c = 10) : esc c = [92, 110] := by subst h; decide
theorem esc_plain {c : UInt8} (h1 : ¬ (c = 34 ∨ c = 92)) (h2 : ¬ c = 10) : esc c = [c] := by unfold esc; rw [if_neg h1, if_neg h2]

theorem wb_lit (B b : Nat) (bs : List UInt8) (c : UInt8) (n : Int) (hn : (c.toNat : Int) = n) (w : World) (h : Bd B b bs w) (hl : bs.length ≤ 1000000000) (hB : B ≤ w.heap.size) :
    Calls Tryd.prog 25 #[.pointer (some ⟨b, 0, none⟩), .int .u8 n] w fun e w' => e = .returned .nilIface ∧ Bd B b (bs ++ [c]) w' ∧ BK B b w w' := by
  subst hn
  exact wb_any B b bs c w h hl hB

set_option maxRecDepth 100000 in
set_option maxHeartbeats 4000000 in
theorem writeQuoted_any (B b : Nat) (bs : List UInt8) (s : ByteArray) (w : World) (h : Bd B b bs w) (hl : bs.length ≤ 100000000) (hs : s.size ≤ 100000000) (hB : B ≤ w.heap.size) :
    Calls Tryd.prog 26 #[.pointer (some ⟨b, 0, none⟩), .string s] w fun e w' => e = .returned (.tuple #[]) ∧ Bd B b (bs ++ quoteL s.data.toList) w' ∧ BK B b w w' := by
  have hB0 := h
  clear h
  go_enter Tryd.func26, Tryd.ntmps26
  go_wp2_with (go_at_call 25; refine (wb_lit B b bs 34 34 rfl w hB0 (by omega) hB).mono ?_; clear hB0; rintro e w1 ⟨rfl, hB1, hk1⟩)
  go_loopw [10] (fun i wr => ∃ k : Nat, k ≤ s.size ∧ i = .int .i64 k ∧ Hid (Bd B b (bs ++ ([34] ++ (s.data.toList.take k).flatMap esc)) wr) ∧ Hid (BK B b w wr)) (fun i _ => s.size - (intOf i).toNat)
  case atStart => exact ⟨0, Nat.zero_le _, rfl, by show Bd _ _ _ _; simpa using hB1, hk1⟩
  case round =>
    clear hB1 hk1
    obtain ⟨k, hk, rfl, hBd, hBK⟩ := hrel
    have hle : (bs ++ ([34] ++ (s.data.toList.take k).flatMap esc)).length ≤ 1000000000 - 4 := by
      have h1 := escs_length (s.data.toList.take k)
      have h2 : (s.data.toList.take k).length = k := by rw [List.length_take, Array.length_toList]; exact Nat.min_eq_left hk
      rw [h2] at h1
      rw [List.length_append, List.length_append, List.length_singleton]
      omega
    have hsz : B ≤ wr.heap.size := Nat.le_trans hB hBK.out.below.size
    by_cases hlt : k < s.size
    · have hlt' : k < s.data.toList.length := by rw [Array.length_toList]; exact hlt
      have HE : Hid ((s.data.toList.take (k + 1)).flatMap esc = (s.data.toList.take k).flatMap esc ++ esc s[k]) := escs_succ _ k hlt'
      generalize (s.data.toList.take k).flatMap esc = acc at *
      have hcl := s[k].toNat_lt
      obtain ⟨c, hc⟩ : ∃ c, c = s[k] := ⟨_, rfl⟩
      rw [← hc] at HE hcl
      have hcN : s[k].toNat = c.toNat := by rw [hc]
      clear hc
      have hB0 := hBd.out
      have hBK0 := hBK.out
      clear hBd hBK
      have hfin : Hid (∀ x W, esc c = x → Bd B b (bs ++ ([34] ++ acc) ++ x) W → Bd B b (bs ++ ([34] ++ (s.data.toList.take (k + 1)).flatMap esc)) W) := fun x W e hh => by
        rw [HE.out, e]
        simpa using hh
      clear HE
      generalize hbs : bs ++ ([34] ++ acc) = bs' at *
      clear hbs
      by_cases hq : c = 34 ∨ c = 92
      · have HE' := esc_quote hq
        rcases hq with rfl | rfl
        · have hcN' : s[k].toNat = 34 := hcN
          clear hcN hcl
          go_wp2_with (first
            | (go_at_call 25; refine (wb_lit B b bs' 92 92 rfl wr hB0 (by omega) hsz).mono ?_; clear hB0; rintro e w1 ⟨rfl, hB1, hk1⟩; have hsz1 := Nat.le_trans hsz hk1.below.size)
            | (go_at_call 25; refine (wb_lit B b _ 34 34 rfl w1 hB1 (by simp; omega) hsz1).mono ?_; clear hB1; rintro e w2 ⟨rfl, hB2, hk2⟩))
          go_roundw
          case rel => exact ⟨k + 1, by omega, by go_num, hfin.out _ _ HE' (by rw [List.append_assoc] at hB2; exact hB2), (hBK0.trans hk1).trans hk2⟩
          case measure => simp [intOf]; omega
        · have hcN' : s[k].toNat = 92 := hcN
          clear hcN hcl
          go_wp2_with (first
            | (go_at_call 25; refine (wb_lit B b bs' 92 92 rfl wr hB0 (by omega) hsz).mono ?_; clear hB0; rintro e w1 ⟨rfl, hB1, hk1⟩; have hsz1 := Nat.le_trans hsz hk1.below.size)
            | (go_at_call 25; refine (wb_lit B b _ 92 92 rfl w1 hB1 (by simp; omega) hsz1).mono ?_; clear hB1; rintro e w2 ⟨rfl, hB2, hk2⟩))
          go_roundw
          case rel => exact ⟨k + 1, by omega, by go_num, hfin.out _ _ HE' (by rw [List.append_assoc] at hB2; exact hB2), (hBK0.trans hk1).trans hk2⟩
          case measure => simp [intOf]; omega
      · by_cases h10 : c = 10
        · have HE' := esc_line h10
          subst h10
          have hcN' : s[k].toNat = 10 := hcN
          clear hcN hcl hq
          go_wp2_with (go_at_call 24; refine (ws_any B b bs' ⟨#[92, 110]⟩ wr hB0 (by omega) (by decide) hsz).mono ?_; clear hB0; rintro e w1 ⟨rfl, hB1, hk1⟩)
          go_roundw
          case rel => exact ⟨k + 1, by omega, by go_num, hfin.out _ _ HE' hB1, hBK0.trans hk1⟩
          case measure => simp [intOf]; omega
        · have HE' : Hid (esc c = [c]) := esc_plain hq h10
          have hw := wb_any B b bs' c wr hB0 (by omega) hsz
          have n1 : ¬ (c.toNat : Int) = 34 := fun e => hq (Or.inl (UInt8.toNat_inj.1 (by simp; omega)))
          have n2 : ¬ (c.toNat : Int) = 92 := fun e => hq (Or.inr (UInt8.toNat_inj.1 (by simp; omega)))
          have n3 : ¬ (c.toNat : Int) = 10 := fun e => h10 (UInt8.toNat_inj.1 (by simp; omega))
          have HQ : Hid (¬ (c = 34 ∨ c = 92) ∧ ¬ c = 10) := ⟨hq, h10⟩
          clear hq h10 hB0
          generalize c.toNat = cN at *
          go_wp2_with (go_at_call 25; refine hw.mono ?_; rintro e w1 ⟨rfl, hB1, hk1⟩)
          go_roundw
          case rel => exact ⟨k + 1, by omega, by go_num, hfin.out _ _ HE'.out hB1, hBK0.trans hk1⟩
          case measure => simp [intOf]; omega
    · have hB0 := hBd.out
      have hBK0 := hBK.out
      clear hBd hBK
      have hfin : Hid (∀ W, Bd B b (bs ++ ([34] ++ (s.data.toList.take k).flatMap esc) ++ [34]) W → Bd B b (bs ++ quoteL s.data.toList) W) := fun W hh => by
        rw [List.take_of_length_le (by rw [Array.length_toList]; show s.size ≤ k; omega)] at hh
        unfold quoteL
        simpa using hh
      go_wp2_with (go_at_call 25; refine (wb_lit B b _ 34 34 rfl wr hB0 (by omega) hsz).mono ?_; clear hB0; rintro e w1 ⟨rfl, hB1, hk1⟩)
      go_end0
      exact ⟨rfl, hfin.out _ hB1, hBK0.trans hk1⟩

end Go.Proofs.YtlfcnekmdojabaaDoor
