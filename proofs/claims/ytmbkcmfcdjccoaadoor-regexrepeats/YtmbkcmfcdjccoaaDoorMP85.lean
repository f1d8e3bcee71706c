/- A number taken within a bound; what repeats are written of. -/
import Derived.Test.YtmbkcmfcdjccoaaDoorMP83
import Derived.Test.YtmbkcmfcdjccoaaDoorMP81
import Derived.Lib.ConvBytes
namespace Go.Proofs.YtmbkcmfcdjccoaaDoor
open Go.RowKit Go.Maps

theorem ret_i {a b : Int} (h : a = b) : Ending.returned (.int .i64 a) = .returned (.int .i64 b) := by rw [h]
theorem emod_of_tmod (n m : Int) : n % m = (n.tmod m) % m := by
  have h := Int.mul_tdiv_add_tmod n m
  conv => lhs; rw [← h, Int.add_comm]
  rw [Int.add_mul_emod_self_left]

set_option maxRecDepth 100000 in
set_option maxHeartbeats 1000000 in
theorem keepWithin_any (n m : Int) (w : World) (hm : 1 ≤ m) (hm' : m ≤ 4611686018427387904) (_hn : -9223372036854775808 ≤ n) (_hn' : n ≤ 9223372036854775807) :
    Calls Tryd.prog 16 #[.int .i64 n, .int .i64 m] w fun e w' => e = .returned (.int .i64 (n % m)) ∧ w' = w := by
  have hmz : m ≠ 0 := by omega
  have h1 : -m < Int.tmod n m := by
    have := Int.lt_tmod_of_pos n (show 0 < m by omega); omega
  have h2 : Int.tmod n m < m := Int.tmod_lt_of_pos n (by omega)
  by_cases h : Int.tmod n m < 0
  · go_enter Tryd.func16, Tryd.ntmps16
    go_wp2
    go_ret
    have e : n.tmod m + m = n % m := by
      have e2 := Int.add_mul_emod_self_left (n.tmod m) m 1
      rw [Int.mul_one] at e2
      rw [emod_of_tmod, ← e2]
      exact (Int.emod_eq_of_lt (by omega) (by omega)).symm
    exact ⟨ret_i e, rfl⟩
  · go_enter Tryd.func16, Tryd.ntmps16
    go_wp2
    go_ret
    have e : n.tmod m = n % m := by
      rw [emod_of_tmod]
      exact (Int.emod_eq_of_lt (by omega) (by omega)).symm
    exact ⟨ret_i e, rfl⟩
theorem conv_digit (W : World) (z : Int) (h0 : 0 ≤ z) (h1 : z < 256) : (convert 37 9 (.slice (some ⟨W.heap.size, 0, none⟩) 1 1)).run Tryd.prog (W.alloc (.cells #[.int .u8 z] 5)) = .ok (.string ⟨#[UInt8.ofNat z.toNat]⟩) (W.alloc (.cells #[.int .u8 z] 5)) := by
  refine run_convert_bytes_back (P := Tryd.prog) (W.alloc (.cells #[.int .u8 z] 5)) 37 9 5 ⟨W.heap.size, 0, none⟩ 1 [UInt8.ofNat z.toNat] Tryd.underlying37 Tryd.underlying5 Tryd.underlying9 (fun j hj => ?_)
  have hj0 : j = 0 := by simp at hj; omega
  subst hj0
  have e : ((UInt8.ofNat z.toNat).toNat : Int) = z := by rw [UInt8.toNat_ofNat']; omega
  have hc : (W.alloc (.cells #[.int .u8 z] 5)).cell? ⟨W.heap.size, 0, none⟩ = some (.int .u8 z) := by
    have := heap_alloc_new W (.cells #[.int .u8 z] 5)
    simp only [World.cell?, this]
    rfl
  rw [Addr.add_lit, hc]
  show some (Value.int .u8 z) = some (Value.int .u8 ((UInt8.ofNat z.toNat).toNat : Nat))
  rw [e]
theorem conv_sign (W : World) (v : Nat) (hv : v ≤ 9) (z : Int) (hz : z = 48 + v) (n : Nat) (hn : n = W.heap.size) : (convert 37 9 (.slice (some ⟨n, 0, none⟩) 1 1)).run Tryd.prog (W.alloc (.cells #[.int .u8 z] 5)) = .ok (.string ⟨#[(48 + v).toUInt8]⟩) (W.alloc (.cells #[.int .u8 z] 5)) := by
  subst hz hn
  have h := conv_digit W (48 + (v : Int)) (by omega) (by omega)
  rw [show (48 + (v : Int)).toNat = 48 + v by omega] at h
  exact h
theorem add_data (a b : ByteArray) : (a ++ b).data.toList = a.data.toList ++ b.data.toList := by simp
/-- The signs of a repeat, as a text. -/
def braB (k lo hi : Nat) : ByteArray := ⟨(sufB k lo hi).toArray⟩
theorem braB_data (k lo hi : Nat) : (braB k lo hi).data.toList = sufB k lo hi := rfl
theorem braB_size (k lo hi : Nat) : (braB k lo hi).size ≤ 5 := by
  rw [Lib.size_eq, braB_data]
  unfold sufB
  repeat' split
  all_goals simp
theorem cell_last {w1 W w7 : World} {c : Array Value} {t : TypeId} (hb : Below (w1.alloc (.cells c t)).heap.size (w1.alloc (.cells c t)) W) (hb7 : Below W.heap.size W w7) (k : Nat) (v : Value) (h : c[k]? = some v) (n : Nat) (hn : n = w1.heap.size) : w7.cell? ⟨n, k, none⟩ = some v := by
  subst hn
  have hlt : w1.heap.size < (w1.alloc (.cells c t)).heap.size := by simp
  have h1 := (hb.trans (hb7.mono hb.size)).block w1.heap.size hlt
  have h2 := heap_alloc_new w1 (.cells c t)
  simp only [World.cell?, h1, h2, h]
  rfl
theorem arr_cells {w1 w7 : World} {o1 o2 o3 : Obj} {c4 c5 c6 : Array Value} {t4 t5 t6 : TypeId} (hb : Below ((((((w1.alloc o1).alloc o2).alloc o3).alloc (.cells c4 t4)).alloc (.cells c5 t5)).alloc (.cells c6 t6)).heap.size ((((((w1.alloc o1).alloc o2).alloc o3).alloc (.cells c4 t4)).alloc (.cells c5 t5)).alloc (.cells c6 t6)) w7) (k : Nat) (v4 v5 v6 : Value) (h4 : c4[k]? = some v4) (h5 : c5[k]? = some v5) (h6 : c6[k]? = some v6) :
    w7.cell? ⟨w1.heap.size + 1 + 1 + 1, k, none⟩ = some v4 ∧ w7.cell? ⟨w1.heap.size + 1 + 1 + 1 + 1, k, none⟩ = some v5 ∧ w7.cell? ⟨w1.heap.size + 1 + 1 + 1 + 1 + 1, k, none⟩ = some v6 :=
  ⟨cell_last (((Below.refl _ _).alloc (Nat.le_refl _) _).alloc (by simp) _) hb k v4 h4 _ (by simp), cell_last ((Below.refl _ _).alloc (Nat.le_refl _) _) hb k v5 h5 _ (by simp), cell_last (Below.refl _ _) hb k v6 h6 _ (by simp)⟩
theorem bra_cells (b1 b2 : UInt8) (lo d : Nat) (h1 : b1 = (48 + lo).toUInt8) (h2 : b2 = (48 + (lo + d)).toUInt8) (k : Nat) (hk : k < 4) :
    (#[Value.string ((⟨#[123]⟩ : ByteArray) ++ ⟨#[b1]⟩ ++ ⟨#[125]⟩), Value.string ((⟨#[123]⟩ : ByteArray) ++ ⟨#[b1]⟩ ++ ⟨#[44]⟩ ++ ⟨#[b2]⟩ ++ ⟨#[125]⟩), Value.string ⟨#[43]⟩, Value.string ⟨#[63]⟩] : Array Value)[k]? = some (.string (braB k lo (lo + d))) ∧
      (#[Value.int .i64 (lo : Int), Value.int .i64 (lo : Int), Value.int .i64 1, Value.int .i64 0] : Array Value)[k]? = some (.int .i64 (frK k lo)) ∧
      (#[Value.int .i64 (lo : Int), Value.int .i64 ((lo : Int) + d), Value.int .i64 5, Value.int .i64 1] : Array Value)[k]? = some (.int .i64 (toK k lo (lo + d))) := by
  have hb : ∀ a : ByteArray, ∀ l : List UInt8, a.data.toList = l → a = ⟨l.toArray⟩ := fun a l h => ByteArray.ext (Array.toList_inj.1 (by rw [h]))
  subst h1 h2
  rcases (by omega : k = 0 ∨ k = 1 ∨ k = 2 ∨ k = 3) with rfl | rfl | rfl | rfl
  · refine ⟨?_, rfl, rfl⟩
    show some (Value.string _) = some (Value.string _)
    rw [hb ((⟨#[123]⟩ : ByteArray) ++ ⟨#[(48 + lo).toUInt8]⟩ ++ ⟨#[125]⟩) (sufB 0 lo (lo + d)) (by rw [add_data, add_data]; rfl)]
    rfl
  · refine ⟨?_, rfl, ?_⟩
    · show some (Value.string _) = some (Value.string _)
      rw [hb ((⟨#[123]⟩ : ByteArray) ++ ⟨#[(48 + lo).toUInt8]⟩ ++ ⟨#[44]⟩ ++ ⟨#[(48 + (lo + d)).toUInt8]⟩ ++ ⟨#[125]⟩) (sufB 1 lo (lo + d)) (by rw [add_data, add_data, add_data, add_data]; rfl)]
      rfl
    · show some (Value.int .i64 ((lo : Int) + d)) = some (Value.int .i64 ((lo + d : Nat) : Int))
      rw [show ((lo + d : Nat) : Int) = (lo : Int) + d by omega]
  · exact ⟨rfl, rfl, rfl⟩
  · exact ⟨rfl, rfl, rfl⟩
theorem fr_up (k lo d : Nat) (hk : k < 4) (hlo : lo ≤ 2) (hd : d ≤ 2) : frK k lo ≤ 2 ∧ toK k lo (lo + d) ≤ 5 ∧ frK k lo ≤ toK k lo (lo + d) := by
  rcases (by omega : k = 0 ∨ k = 1 ∨ k = 2 ∨ k = 3) with rfl | rfl | rfl | rfl
  · show lo ≤ 2 ∧ lo ≤ 5 ∧ lo ≤ lo
    omega
  · show lo ≤ 2 ∧ lo + d ≤ 5 ∧ lo ≤ lo + d
    omega
  · show 1 ≤ 2 ∧ 5 ≤ 5 ∧ 1 ≤ 5
    omega
  · show 0 ≤ 2 ∧ 1 ≤ 5 ∧ 0 ≤ 1
    omega
end Go.Proofs.YtmbkcmfcdjccoaaDoor
