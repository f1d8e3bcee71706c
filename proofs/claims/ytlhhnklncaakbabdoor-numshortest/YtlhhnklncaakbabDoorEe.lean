/- Whole numbers as texts; texts of digits that the statement makes. -/
import Derived.Test.YtlhhnklncaakbabDoorDw
import Derived.Test.YtlhhnklncaakbabDoorPp
import Derived.Test.YtlhhnklncaakbabDoorSq
import Derived.Lib.AppendIntMem
import Derived.Lib.LaidTab
namespace Go.Proofs.YtlhhnklncaakbabDoor
open Go.RowKit Go.Maps

/-- The table of the powers of ten, as the library lays it. -/
def Pow (w : World) : Prop := Lib.TabIs Tryd.prog w "internal/strconv.uint64pow10" .u64 Lib.pow10Tab
theorem Pow.below {w w' : World} (h : Pow w) (hb : Below w.heap.size w w') : Pow w' := by
  have hg : Tryd.prog.globalNamed "internal/strconv.uint64pow10" = some 2 := by kernel_rfl
  unfold Pow Lib.TabIs World.var? at h ⊢
  rw [hg] at h ⊢
  simp only [Option.bind_some] at h ⊢
  have hlt : 2 < w.heap.size := by
    rcases Nat.lt_or_ge 2 w.heap.size with h' | h'
    · exact h'
    · rw [Array.getElem?_eq_none h'] at h; cases h
  rw [hb.block _ hlt]
  exact h
set_option maxRecDepth 100000 in
theorem intText_any (n : Int) (w : World) (h0 : -9223372036854775808 ≤ n) (h1 : n ≤ 9223372036854775807) (hp : Pow w) : Calls Tryd.prog 16 #[.int .i64 n] w fun e w' => e = .returned (.string ⟨(Lib.itoa n).toArray⟩) ∧ Below w.heap.size w w' := by
  have hi : Calls Tryd.prog 33 #[.int .i64 n] w fun e w' => e = .returned (.string ⟨(Lib.itoa n).toArray⟩) ∧ Below w.heap.size w w' := Calls.mono (Any.strconv_Itoa Tryd.lays171 n h0 h1 w hp) (by
    rintro e w' ⟨rfl, k, os, rfl⟩
    exact ⟨rfl, Lib.below_grow _ _ (Nat.le_refl _) k os⟩)
  generalize Lib.itoa n = D at *
  go_enter Tryd.func16, Tryd.ntmps16
  go_wp2_with (go_at_call 33; refine hi.mono ?_; clear hi; rintro e w1 ⟨rfl, hb1⟩; have HB1 : Hid (Below w.heap.size w w1) := hb1; clear hb1)
  go_ret
  exact ⟨rfl, HB1.out⟩
/-- A number's digits say it. -/
theorem dec_val : ∀ (n u : Nat), u ≤ n → (∀ b ∈ Lib.decDigits u, isD b) ∧ Lib.decDigits u ≠ [] ∧ valT (Lib.decDigits u) = u
  | n, u, h => by
    by_cases h10 : u < 10
    · rw [Lib.decDigits_one h10]
      have e : (UInt8.ofNat (48 + u)).toNat = 48 + u := by rw [UInt8.toNat_ofNat']; omega
      refine ⟨fun b hb => ?_, by simp, ?_⟩
      · rw [List.mem_singleton.1 hb]; unfold isD; omega
      · rw [valT_cons, e]; simp [valT]
    · cases n with
      | zero => omega
      | succ n =>
        obtain ⟨i1, i2, i3⟩ := dec_val n (u / 10) (by omega)
        have e : (UInt8.ofNat (48 + u % 10)).toNat = 48 + u % 10 := by rw [UInt8.toNat_ofNat']; omega
        have hd : Lib.decDigits u = Lib.decDigits (u / 10) ++ [UInt8.ofNat (48 + u % 10)] := by rw [Lib.decDigits, dif_neg h10]
        rw [hd]
        refine ⟨fun b hb => ?_, by simp, ?_⟩
        · rcases List.mem_append.1 hb with h1 | h1
          · exact i1 b h1
          · rw [List.mem_singleton.1 h1]; unfold isD; omega
        · rw [valT_append, i3, valT_cons, e]; simp [valT]; omega
theorem itoa_exp (n : Int) (h1 : -1000000 ≤ n) (h2 : n ≤ 1000000) : expR ⟨(Lib.itoa n).toArray⟩ = (n, true) := by
  unfold Lib.itoa
  split
  · obtain ⟨a, b, c⟩ := dec_val n.natAbs n.natAbs (Nat.le_refl _)
    have h := expR_minus a b (by rw [c]; omega)
    rw [h, c]
    congr 1
    omega
  · obtain ⟨a, b, c⟩ := dec_val n.toNat n.toNat (Nat.le_refl _)
    have h := expR_plain a b (by rw [c]; omega)
    rw [h, c]
    congr 1
    omega
/-- A whole number with an exponent is read as the nearest float. -/
theorem parse_whole {x : List UInt8} {k : Int} (hx : ∀ b ∈ x, isD b) (hne : x ≠ []) (hl : x.length ≤ 300) (h1 : -1000000 ≤ k) (h2 : k ≤ 1000000) : ∃ R, parseR ⟨(x ++ 101 :: Lib.itoa k).toArray⟩ = (R, 0) ∧ NearF (valT x * 10 ^ k.toNat) (10 ^ (-k).toNat) R := by
  obtain ⟨ds, h3, h4, h5⟩ := decR_whole hx hne (itoa_exp k h1 h2)
  have hil : (Lib.itoa k).length ≤ 21 := Lib.itoa_length_le k (by omega) (by omega)
  obtain ⟨b, t, rfl⟩ : ∃ b t, x = b :: t := by
    cases x with
    | nil => exact absurd rfl hne
    | cons b t => exact ⟨b, t, rfl⟩
  have hp := parse_digit (b := b) (t := t ++ 101 :: Lib.itoa k) (hx b (by simp)) (by simp at hl ⊢; omega)
  rw [List.cons_append] at h3 ⊢
  rw [hp, h3]
  refine ⟨nearN ds k, rfl, ?_⟩
  rw [← h4]
  exact nearN_near h5 k

theorem ret_i {a b : Int} (h : a = b) : Ending.returned (.int .i64 a) = .returned (.int .i64 b) := by rw [h]
theorem emod_of_tmod (n m : Int) : n % m = (n.tmod m) % m := by
  have h := Int.mul_tdiv_add_tmod n m
  conv => lhs; rw [← h, Int.add_comm]
  rw [Int.add_mul_emod_self_left]

set_option maxRecDepth 100000 in
set_option maxHeartbeats 1000000 in
theorem keepWithin_any (n m : Int) (w : World) (hm : 1 ≤ m) (hm' : m ≤ 4611686018427387904) (_hn : -9223372036854775808 ≤ n) (_hn' : n ≤ 9223372036854775807) :
    Calls Tryd.prog 19 #[.int .i64 n, .int .i64 m] w fun e w' => e = .returned (.int .i64 (n % m)) ∧ w' = w := by
  have hmz : m ≠ 0 := by omega
  have h1 : -m < Int.tmod n m := by
    have := Int.lt_tmod_of_pos n (show 0 < m by omega); omega
  have h2 : Int.tmod n m < m := Int.tmod_lt_of_pos n (by omega)
  by_cases h : Int.tmod n m < 0
  · go_enter Tryd.func19, Tryd.ntmps19
    go_wp2
    go_ret
    have e : n.tmod m + m = n % m := by
      have e2 := Int.add_mul_emod_self_left (n.tmod m) m 1
      rw [Int.mul_one] at e2
      rw [emod_of_tmod, ← e2]
      exact (Int.emod_eq_of_lt (by omega) (by omega)).symm
    exact ⟨ret_i e, rfl⟩
  · go_enter Tryd.func19, Tryd.ntmps19
    go_wp2
    go_ret
    have e : n.tmod m = n % m := by
      rw [emod_of_tmod]
      exact (Int.emod_eq_of_lt (by omega) (by omega)).symm
    exact ⟨ret_i e, rfl⟩

/-- A slice that reads as these bytes. -/
def BAt (w : World) (v : Value) (bs : List UInt8) : Prop := ∃ a c, v = .slice a bs.length c ∧ (bs.length ≤ c ∧ c ≤ maxLen) ∧ ∀ k (hk : k < bs.length), ∃ b o, a = some ⟨b, o, none⟩ ∧ b < w.heap.size ∧ w.cell? ⟨b, o + k, none⟩ = some (.int .u8 bs[k].toNat)
theorem BAt.below {w w' : World} {v : Value} {bs : List UInt8} (h : BAt w v bs) (hb : Below w.heap.size w w') : BAt w' v bs := by
  obtain ⟨a, c, e, hlc, hk⟩ := h
  refine ⟨a, c, e, hlc, fun k hlt => ?_⟩
  obtain ⟨b, o, ha, hl, h1⟩ := hk k hlt
  have := hb.size
  exact ⟨b, o, ha, by omega, (hb.cell (p := ⟨b, o + k, none⟩) hl).trans h1⟩
theorem ba_app (a b : List UInt8) : ((⟨a.toArray⟩ : ByteArray) ++ ⟨b.toArray⟩) = ⟨(a ++ b).toArray⟩ := by
  apply ByteArray.ext
  simp
def dgt (b : UInt8) : UInt8 := UInt8.ofNat (48 + b.toNat % 10)
/-- Bytes as digits. -/
def digB (bs : List UInt8) : List UInt8 := 48 :: (bs.take 40).map dgt
theorem dgt_isD (b : UInt8) : isD (dgt b) := by
  unfold isD dgt
  rw [UInt8.toNat_ofNat']
  omega
theorem digB_isD (bs : List UInt8) : ∀ b ∈ digB bs, isD b := fun b hb => by
  rcases List.mem_cons.1 hb with rfl | h
  · unfold isD; decide
  · obtain ⟨x, _, rfl⟩ := List.mem_map.1 h
    exact dgt_isD x
theorem conv_one (W : World) (z : Int) (h0 : 0 ≤ z) (h1 : z < 256) : (convert 39 9 (.slice (some ⟨W.heap.size, 0, none⟩) 1 1)).run Tryd.prog (W.alloc (.cells #[.int .u8 z] 5)) = .ok (.string ⟨#[UInt8.ofNat z.toNat]⟩) (W.alloc (.cells #[.int .u8 z] 5)) := by
  refine run_convert_bytes_back (P := Tryd.prog) (W.alloc (.cells #[.int .u8 z] 5)) 39 9 5 ⟨W.heap.size, 0, none⟩ 1 [UInt8.ofNat z.toNat] Tryd.underlying39 Tryd.underlying5 Tryd.underlying9 (fun j hj => ?_)
  have hj0 : j = 0 := by simp at hj; omega
  subst hj0
  have e : ((UInt8.ofNat z.toNat).toNat : Int) = z := by rw [UInt8.toNat_ofNat']; omega
  have hc : (W.alloc (.cells #[.int .u8 z] 5)).cell? ⟨W.heap.size, 0, none⟩ = some (.int .u8 z) := by
    have := heap_alloc_new W (.cells #[.int .u8 z] 5)
    simp only [World.cell?, this]
    rfl
  rw [Addr.add_lit, hc]
  show some (Value.int .u8 z) = some (Value.int .u8 ((UInt8.ofNat z.toNat).toNat : Nat))
  rw [e]

set_option maxRecDepth 100000 in
set_option maxHeartbeats 1000000 in
theorem digitsOf_any (v : Value) (bs : List UInt8) (w : World) (h : BAt w v bs) : Calls Tryd.prog 18 #[v] w fun e w' => e = .returned (.string ⟨(digB bs).toArray⟩) ∧ Below w.heap.size w w' := by
  obtain ⟨a, c, rfl, hlc, -⟩ := id h
  have HA : Hid (BAt w (.slice a bs.length c) bs) := h
  unfold maxLen at hlc
  clear h
  go_enter Tryd.func18, Tryd.ntmps18
  go_wp2
  go_loopw [3, 4] (fun s i wr => ∃ (k : Nat) (D : List UInt8), k ≤ 40 ∧ k ≤ bs.length ∧ i = .int .i64 k ∧ s = .string ⟨D.toArray⟩ ∧ Hid (D = 48 :: (bs.take k).map dgt) ∧ D.length ≤ 41 ∧ Hid (Below w.heap.size w wr)) (fun _ i _ => 40 - (intOf i).toNat)
  case atStart => exact ⟨0, [48], by omega, by omega, rfl, rfl, rfl, by decide, Below.refl _ _⟩
  case round =>
    obtain ⟨k, D, hk, hkl, rfl, rfl, HD, hdl, HBL⟩ := hrel
    by_cases hlt : k < bs.length
    · by_cases h40 : k < 40
      · obtain ⟨a', c', e, -, hc⟩ := HA.out.below (HBL.out)
        cases e
        obtain ⟨b, o, rfl, hbl, hcell⟩ := hc k hlt
        obtain ⟨y, hy⟩ : ∃ y, y = bs[k].toNat := ⟨_, rfl⟩
        have hyl : y < 256 := by rw [hy]; exact bs[k].toNat_lt
        rw [← hy] at hcell
        have hcv := conv_one wr (48 + (y : Int) % 10) (by omega) (by omega)
        rw [show (48 + (y : Int) % 10).toNat = 48 + y % 10 by omega] at hcv
        have HS : Hid (D ++ [UInt8.ofNat (48 + y % 10)] = 48 :: (bs.take (k + 1)).map dgt) := by
          show _ = _
          rw [HD.out, List.take_succ_eq_append_getElem hlt, List.map_append, hy]
          rfl
        have HL : Hid ((D ++ [UInt8.ofNat (48 + y % 10)]).length ≤ 41) := by show _ ≤ _; rw [HS.out]; simp; omega
        obtain ⟨d, hd⟩ : ∃ d, d = UInt8.ofNat (48 + y % 10) := ⟨_, rfl⟩
        rw [← hd] at hcv HS HL
        clear hc hy hd
        have hlti : (k : Int) < (bs.length : Int) := by omega
        have h40i : (k : Int) < 40 := by omega
        go_wp2
        go_roundw
        case rel => exact ⟨k + 1, D ++ [d], by omega, by omega, by go_num, by rw [ba_app], HS.out, HL.out, HBL.out.alloc HBL.out.size _⟩
        case measure => simp [intOf]; omega
      · have HK : Hid (digB bs = D) := by show _ = _; unfold digB; rw [HD.out, show k = 40 by omega]
        have h40i : ¬ (k : Int) < 40 := by omega
        go_wp2
        go_ret
        exact ⟨by rw [HK.out]; rfl, HBL.out⟩
    · have HK : Hid (digB bs = D) := by
        show _ = _
        unfold digB
        rw [HD.out, show k = bs.length by omega, List.take_length, List.take_of_length_le (by omega)]
      have hki : ¬ (k : Int) < (bs.length : Int) := by omega
      go_wp2
      go_ret
      exact ⟨by rw [HK.out]; rfl, HBL.out⟩
end Go.Proofs.YtlhhnklncaakbabDoor
