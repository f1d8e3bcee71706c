/- Texts of digits that the statement makes. -/
import Derived.Test.YtfnciidhifencaaDoorMEl
namespace Go.Proofs.YtfnciidhifencaaDoor
open Go.RowKit Go.Maps

theorem ret_i {a b : Int} (h : a = b) : Ending.returned (.int .i64 a) = .returned (.int .i64 b) := by rw [h]
theorem emod_of_tmod (n m : Int) : n % m = (n.tmod m) % m := by
  have h := Int.mul_tdiv_add_tmod n m
  conv => lhs; rw [← h, Int.add_comm]
  rw [Int.add_mul_emod_self_left]

set_option maxRecDepth 100000 in
set_option maxHeartbeats 1000000 in
theorem keepWithin_any (n m : Int) (w : World) (hm : 1 ≤ m) (hm' : m ≤ 4611686018427387904) (_hn : -9223372036854775808 ≤ n) (_hn' : n ≤ 9223372036854775807) :
    Calls Tryd.prog 19 #[.int .i64 n, .int .i64 m] w fun e w' => e = .returned (.int .i64 (n % m)) ∧ w' = w := by
  have hmz : m ≠ 0 := by omega
  have h1 : -m < Int.tmod n m := by
    have := Int.lt_tmod_of_pos n (show 0 < m by omega); omega
  have h2 : Int.tmod n m < m := Int.tmod_lt_of_pos n (by omega)
  by_cases h : Int.tmod n m < 0
  · go_enter Tryd.func19, Tryd.ntmps19
    go_wp2
    go_ret
    have e : n.tmod m + m = n % m := by
      have e2 := Int.add_mul_emod_self_left (n.tmod m) m 1
      rw [Int.mul_one] at e2
      rw [emod_of_tmod, ← e2]
      exact (Int.emod_eq_of_lt (by omega) (by omega)).symm
    exact ⟨ret_i e, rfl⟩
  · go_enter Tryd.func19, Tryd.ntmps19
    go_wp2
    go_ret
    have e : n.tmod m = n % m := by
      rw [emod_of_tmod]
      exact (Int.emod_eq_of_lt (by omega) (by omega)).symm
    exact ⟨ret_i e, rfl⟩

/-- A slice that reads as these bytes. -/
def BAt (w : World) (v : Value) (bs : List UInt8) : Prop := ∃ a c, v = .slice a bs.length c ∧ (bs.length ≤ c ∧ c ≤ maxLen) ∧ ∀ k (hk : k < bs.length), ∃ b o, a = some ⟨b, o, none⟩ ∧ b < w.heap.size ∧ w.cell? ⟨b, o + k, none⟩ = some (.int .u8 bs[k].toNat)
theorem BAt.below {w w' : World} {v : Value} {bs : List UInt8} (h : BAt w v bs) (hb : Below w.heap.size w w') : BAt w' v bs := by
  obtain ⟨a, c, e, hlc, hk⟩ := h
  refine ⟨a, c, e, hlc, fun k hlt => ?_⟩
  obtain ⟨b, o, ha, hl, h1⟩ := hk k hlt
  have := hb.size
  exact ⟨b, o, ha, by omega, (hb.cell (p := ⟨b, o + k, none⟩) hl).trans h1⟩
theorem ba_app (a b : List UInt8) : ((⟨a.toArray⟩ : ByteArray) ++ ⟨b.toArray⟩) = ⟨(a ++ b).toArray⟩ := by
  apply ByteArray.ext
  simp
def dgt (b : UInt8) : UInt8 := UInt8.ofNat (48 + b.toNat % 10)
/-- Bytes as digits. -/
def digB (bs : List UInt8) : List UInt8 := 48 :: (bs.take 40).map dgt
theorem dgt_isD (b : UInt8) : isD (dgt b) := by
  unfold isD dgt
  rw [UInt8.toNat_ofNat']
  omega
theorem digB_isD (bs : List UInt8) : ∀ b ∈ digB bs, isD b := fun b hb => by
  rcases List.mem_cons.1 hb with rfl | h
  · unfold isD; decide
  · obtain ⟨x, _, rfl⟩ := List.mem_map.1 h
    exact dgt_isD x
theorem conv_one (W : World) (z : Int) (h0 : 0 ≤ z) (h1 : z < 256) : (convert 39 9 (.slice (some ⟨W.heap.size, 0, none⟩) 1 1)).run Tryd.prog (W.alloc (.cells #[.int .u8 z] 5)) = .ok (.string ⟨#[UInt8.ofNat z.toNat]⟩) (W.alloc (.cells #[.int .u8 z] 5)) := by
  refine run_convert_bytes_back (P := Tryd.prog) (W.alloc (.cells #[.int .u8 z] 5)) 39 9 5 ⟨W.heap.size, 0, none⟩ 1 [UInt8.ofNat z.toNat] Tryd.underlying39 Tryd.underlying5 Tryd.underlying9 (fun j hj => ?_)
  have hj0 : j = 0 := by simp at hj; omega
  subst hj0
  have e : ((UInt8.ofNat z.toNat).toNat : Int) = z := by rw [UInt8.toNat_ofNat']; omega
  have hc : (W.alloc (.cells #[.int .u8 z] 5)).cell? ⟨W.heap.size, 0, none⟩ = some (.int .u8 z) := by
    have := heap_alloc_new W (.cells #[.int .u8 z] 5)
    simp only [World.cell?, this]
    rfl
  rw [Addr.add_lit, hc]
  show some (Value.int .u8 z) = some (Value.int .u8 ((UInt8.ofNat z.toNat).toNat : Nat))
  rw [e]

set_option maxRecDepth 100000 in
set_option maxHeartbeats 1000000 in
theorem digitsOf_any (v : Value) (bs : List UInt8) (w : World) (h : BAt w v bs) : Calls Tryd.prog 18 #[v] w fun e w' => e = .returned (.string ⟨(digB bs).toArray⟩) ∧ Below w.heap.size w w' := by
  obtain ⟨a, c, rfl, hlc, -⟩ := id h
  have HA : Hid (BAt w (.slice a bs.length c) bs) := h
  unfold maxLen at hlc
  clear h
  go_enter Tryd.func18, Tryd.ntmps18
  go_wp2
  go_loopw [3, 4] (fun s i wr => ∃ (k : Nat) (D : List UInt8), k ≤ 40 ∧ k ≤ bs.length ∧ i = .int .i64 k ∧ s = .string ⟨D.toArray⟩ ∧ Hid (D = 48 :: (bs.take k).map dgt) ∧ D.length ≤ 41 ∧ Hid (Below w.heap.size w wr)) (fun _ i _ => 40 - (intOf i).toNat)
  case atStart => exact ⟨0, [48], by omega, by omega, rfl, rfl, rfl, by decide, Below.refl _ _⟩
  case round =>
    obtain ⟨k, D, hk, hkl, rfl, rfl, HD, hdl, HBL⟩ := hrel
    by_cases hlt : k < bs.length
    · by_cases h40 : k < 40
      · obtain ⟨a', c', e, -, hc⟩ := HA.out.below (HBL.out)
        cases e
        obtain ⟨b, o, rfl, hbl, hcell⟩ := hc k hlt
        obtain ⟨y, hy⟩ : ∃ y, y = bs[k].toNat := ⟨_, rfl⟩
        have hyl : y < 256 := by rw [hy]; exact bs[k].toNat_lt
        rw [← hy] at hcell
        have hcv := conv_one wr (48 + (y : Int) % 10) (by omega) (by omega)
        rw [show (48 + (y : Int) % 10).toNat = 48 + y % 10 by omega] at hcv
        have HS : Hid (D ++ [UInt8.ofNat (48 + y % 10)] = 48 :: (bs.take (k + 1)).map dgt) := by
          show _ = _
          rw [HD.out, List.take_succ_eq_append_getElem hlt, List.map_append, hy]
          rfl
        have HL : Hid ((D ++ [UInt8.ofNat (48 + y % 10)]).length ≤ 41) := by show _ ≤ _; rw [HS.out]; simp; omega
        obtain ⟨d, hd⟩ : ∃ d, d = UInt8.ofNat (48 + y % 10) := ⟨_, rfl⟩
        rw [← hd] at hcv HS HL
        clear hc hy hd
        have hlti : (k : Int) < (bs.length : Int) := by omega
        have h40i : (k : Int) < 40 := by omega
        go_wp2
        go_roundw
        case rel => exact ⟨k + 1, D ++ [d], by omega, by omega, by go_num, by rw [ba_app], HS.out, HL.out, HBL.out.alloc HBL.out.size _⟩
        case measure => simp [intOf]; omega
      · have HK : Hid (digB bs = D) := by show _ = _; unfold digB; rw [HD.out, show k = 40 by omega]
        have h40i : ¬ (k : Int) < 40 := by omega
        go_wp2
        go_ret
        exact ⟨by rw [HK.out]; rfl, HBL.out⟩
    · have HK : Hid (digB bs = D) := by
        show _ = _
        unfold digB
        rw [HD.out, show k = bs.length by omega, List.take_length, List.take_of_length_le (by omega)]
      have hki : ¬ (k : Int) < (bs.length : Int) := by omega
      go_wp2
      go_ret
      exact ⟨by rw [HK.out]; rfl, HBL.out⟩
end Go.Proofs.YtfnciidhifencaaDoor
