/- A set's hash. -/
import Derived.Test.YtobkomfeojhhbaaDoorLj
namespace Go.Proofs.YtobkomfeojhhbaaDoor
open Go.RowKit Go.Maps

/-- A row of bytes, read. -/
theorem Row.cell {w : World} {base : Nat} {bs : List UInt8} {a : Option Addr} {n c : Nat} (h : Row w base (.slice a n c) bs) (k : Nat) (hk : k < bs.length) : ∃ g, a = some ⟨g, 0, none⟩ ∧ w.cell? ⟨g, k, none⟩ = some (.int .u8 bs[k].toNat) := by
  rcases h.2 with ⟨e, h0⟩ | ⟨g, cap, cur, e, _⟩
  · omega
  · cases e
    refine ⟨g, rfl, ?_⟩
    have := World.ownsRow.cells h (g := g) rfl k (.int .u8 bs[k].toNat) (by simp [byteVals, hk])
    rw [Addr.add_lit, Nat.zero_add] at this
    exact this

def stepH (H : Int) (b : UInt8) : Int := IntKind.u64.wrap (bits BinOp.xor IntKind.u64 H (b.toNat : Int) * 1099511628211)
def sumL (bs : List UInt8) : Int := bs.foldl stepH 14695981039346656037
theorem sumL_succ (bs : List UInt8) (k : Nat) (hk : k < bs.length) : sumL (bs.take (k + 1)) = stepH (sumL (bs.take k)) bs[k] := by
  unfold sumL
  rw [List.take_succ_eq_append_getElem hk, List.foldl_append]
  rfl
theorem bytesL_length {ls : List Lb} (hl : ls.length ≤ 255) (hsh : Short ls) : (bytesL ls).length ≤ 1000000 := by
  obtain ⟨xs, hxs⟩ := hsh.lift
  have := labs_bound xs
  have hx : xs.length = ls.length := by rw [← hxs]; simp
  rw [hxs] at this
  unfold bytesL
  rw [List.length_append, List.length_singleton]
  omega
theorem ret_u64 {a b : Int} (h : a = b) : Ending.returned (.int .u64 a) = .returned (.int .u64 b) := by rw [h]

set_option maxRecDepth 100000 in
set_option maxHeartbeats 1500000 in
theorem hash_any (v : Value) (ls : List Lb) (w : World) (h : LabsAt w v ls) (hl : ls.length ≤ 255) (hsh : Short ls) :
    Calls Tryd.prog 32 #[v] w fun e w' => e = .returned (.int .u64 (sumL (bytesL ls))) ∧ Below w.heap.size w w' := by
  have hby := bytes_any v ls w h hl hsh
  have hlen := bytesL_length hl hsh
  obtain ⟨a, c, rfl, -, -⟩ := id h
  generalize bytesL ls = bs at *
  clear h hsh
  go_enter Tryd.func32, Tryd.ntmps32
  go_wp2_with (go_at_call 30; refine hby.mono ?_; rintro e w1 ⟨v1, rfl, hr1, hb1⟩; obtain ⟨a1, c1, hv1⟩ := slice_of_row hr1; subst hv1)
  have HR : Hid (Row w1 w.heap.size (.slice a1 bs.length c1) bs) := hr1
  clear hr1 hby
  go_loop [3, 9] (fun hv i => ∃ (k : Nat) (H : Int), k ≤ bs.length ∧ i = .int .i64 k ∧ hv = .int .u64 H ∧ Hid (sumL (bs.take k) = H)) (fun _ i => bs.length - (intOf i).toNat)
  case atStart => exact ⟨0, _, Nat.zero_le _, rfl, rfl, rfl⟩
  case round =>
    obtain ⟨k, H, hk, rfl, rfl, hH⟩ := hrel
    by_cases hlt : k < bs.length
    · obtain ⟨g, rfl, hc⟩ := HR.out.cell k hlt
      have hcl := bs[k].toNat_lt
      have HN : Hid (sumL (bs.take (k + 1)) = IntKind.u64.wrap (bits BinOp.xor IntKind.u64 H (bs[k].toNat : Int) * 1099511628211)) := by
        show _ = _
        rw [sumL_succ bs k hlt, hH.out]
        rfl
      generalize bs[k].toNat = cN at *
      go_wp2
      exact ⟨⟨k + 1, _, by omega, by go_num, rfl, HN⟩, by simp [intOf]; omega⟩
    · have HN : Hid (sumL bs = H) := by
        have := hH.out
        rw [List.take_of_length_le (by omega)] at this
        exact this
      go_wp2
      go_ret
      exact ⟨ret_u64 HN.out.symm, hb1⟩

theorem hash_nil : sumL (bytesL []) = 12638153115695167455 := by kernel_rfl

end Go.Proofs.YtobkomfeojhhbaaDoor
