/- Texts that belong together. -/
import Derived.Test.YtinfnkhghmcelaaDoorN8
import Derived.Laws.ResultCell
/- Reading numbers: exponents, decimals. -/
namespace Go.Proofs.YtinfnkhghmcelaaDoor
open Go.RowKit Go.Maps

theorem drop_byte (t : ByteArray) (k : Nat) (h : k < t.size) : t.data.toList.drop k = t[k] :: t.data.toList.drop (k + 1) := by
  rw [List.drop_eq_getElem_cons (by simpa using h)]
  simp
  rfl
theorem isDigit_yes {b : Int} (w : World) (h1 : 48 ≤ b) (h2 : b ≤ 57) : Calls Tryd.prog 46 #[.int .u8 b] w fun e w' => e = .returned (.bool true) ∧ w' = w := by
  have := isDigit_any b w
  rw [show decide (48 ≤ b ∧ b ≤ 57) = true by simp; omega] at this
  exact this
theorem isDigit_no {b : Int} (w : World) (h : ¬ (48 ≤ b ∧ b ≤ 57)) : Calls Tryd.prog 46 #[.int .u8 b] w fun e w' => e = .returned (.bool false) ∧ w' = w := by
  have := isDigit_any b w
  rw [show decide (48 ≤ b ∧ b ≤ 57) = false by simp; omega] at this
  exact this

def expF : List UInt8 → Nat → Option Nat
  | [], n => some n
  | b :: t, n => if 48 ≤ b.toNat ∧ b.toNat ≤ 57 then expF t (min (n * 10 + (b.toNat - 48)) 1048576) else none
def expR (s : ByteArray) : Int × Bool :=
  if (cutB s).1.size = 0 then (0, false) else match expF (cutB s).1.data.toList 0 with
    | none => (0, false)
    | some n => (if (cutB s).2 then -(n : Int) else n, true)
theorem cutB_size (s : ByteArray) : (cutB s).1.size ≤ s.size := by
  unfold cutB
  split
  · simp
  · exact Nat.le_refl _

set_option maxRecDepth 100000 in
set_option maxHeartbeats 1000000 in
theorem readExponent_any (s : ByteArray) (w : World) (hs : s.size ≤ 1000000) : Calls Tryd.prog 47 #[.string s] w fun e w' => e = .returned (.tuple #[.int .i64 (expR s).1, .bool (expR s).2]) ∧ ∃ q, w' = w.drewN q := by
  have hcut := cutSign_any s w hs
  have hsz := cutB_size s
  have HE : Hid (expR s = if (cutB s).1.size = 0 then (0, false) else match expF (cutB s).1.data.toList 0 with
    | none => (0, false)
    | some n => (if (cutB s).2 then -(n : Int) else n, true)) := rfl
  generalize (cutB s).1 = t at *
  generalize (cutB s).2 = neg at *
  by_cases h0 : t.size = 0
  · have hn1 := is_nil h0
    have hn2 := is_empty h0
    rw [if_pos h0] at HE
    clear h0
    go_enter Tryd.func47, Tryd.ntmps47
    go_wp2_with (go_at_call 19; refine hcut.mono ?_; clear hcut; rintro e w1 ⟨rfl, q, rfl⟩)
    go_ret2
    exact ⟨by rw [HE.out]; rfl, q, rfl⟩
  · rw [if_neg h0] at HE
    have hn1 := not_nil (s := t) (by omega)
    have hn2 := not_empty (s := t) (by omega)
    go_enter Tryd.func47, Tryd.ntmps47
    go_wp2_with (go_at_call 19; refine hcut.mono ?_; clear hcut; rintro e w1 ⟨rfl, q, rfl⟩)
    go_loop [5, 16] (fun c i => ∃ k n : Nat, k ≤ t.size ∧ i = .int .i64 k ∧ c = .int .i64 n ∧ n ≤ 1048576 ∧ Hid (expF (t.data.toList.drop k) n = expF t.data.toList 0)) (fun _ i => t.size - (intOf i).toNat)
    case atStart => exact ⟨0, 0, Nat.zero_le _, rfl, rfl, by omega, rfl⟩
    case round =>
      obtain ⟨k, n, hk, rfl, rfl, hn, hF⟩ := hrel
      by_cases hlt : k < t.size
      · have hbl : t[k].toNat < 256 := t[k].toNat_lt
        by_cases hd : 48 ≤ t[k].toNat ∧ t[k].toNat ≤ 57
        · have HF2 : Hid (expF (t.data.toList.drop (k + 1)) (min (n * 10 + (t[k].toNat - 48)) 1048576) = expF t.data.toList 0) := by
            show _ = _
            rw [← hF.out, drop_byte t k hlt, expF, if_pos hd]
          obtain ⟨hd1, hd2⟩ := hd
          have hdig := isDigit_yes (b := (t[k].toNat : Int)) (w.drewN q) (by omega) (by omega)
          clear hF
          generalize hyy : t[k].toNat = y at *
          go_wp2_with (go_at_call 46; refine hdig.mono ?_; clear hdig; rintro e w2 ⟨rfl, hw2⟩; have hw2 := hw2.symm; subst hw2)
          go_round
          case rel => exact ⟨k + 1, min (n * 10 + (y - 48)) 1048576, by omega, by go_num, by congr 1; omega, by omega, HF2.out⟩
          case measure => simp [intOf]; omega
        · have HF2 : Hid (expF t.data.toList 0 = none) := by
            show _ = _
            rw [← hF.out, drop_byte t k hlt, expF, if_neg hd]
          have hdig := isDigit_no (b := (t[k].toNat : Int)) (w.drewN q) (by omega)
          clear hF
          rw [HF2.out] at HE
          go_wp2_with (go_at_call 46; refine hdig.mono ?_; clear hdig; rintro e w2 ⟨rfl, hw2⟩; have hw2 := hw2.symm; subst hw2)
          go_ret2
          exact ⟨by rw [HE.out]; rfl, q, rfl⟩
      · obtain rfl : k = t.size := by omega
        have h9 := hF.out
        rw [List.drop_of_length_le (by simp), expF] at h9
        rw [← h9] at HE
        clear hF h9
        cases neg
        · go_wp2
          go_ret2
          exact ⟨by rw [HE.out]; rfl, q, rfl⟩
        · go_wp2
          go_ret2
          exact ⟨by rw [HE.out]; rfl, q, rfl⟩

end Go.Proofs.YtinfnkhghmcelaaDoor

/- Reading numbers: decimals. -/
namespace Go.Proofs.YtinfnkhghmcelaaDoor
open Go.RowKit Go.Maps

def u8s (bs : List UInt8) : List Value := bs.map fun b => .int .u8 b.toNat
theorem u8s_append (a b : List UInt8) : u8s (a ++ b) = u8s a ++ u8s b := by simp [u8s]
theorem u8s_length (a : List UInt8) : (u8s a).length = a.length := by simp [u8s]
theorem infoU8 : (Tryd.prog.info? 5).map (fun i => (i.zero, i.size, i.bytes)) = some (some (.int .u8 0), 1, 1) := by kernel_rfl

def scanD : List UInt8 → List UInt8 → Int → Nat → Bool → List UInt8 × Int × Nat × List UInt8
  | [], ds, p, n, _ => (ds, p, n, [])
  | b :: t, ds, p, n, pt =>
    if 48 ≤ b.toNat ∧ b.toNat ≤ 57 then scanD t (if b.toNat ≠ 48 ∨ ds ≠ [] then ds ++ [UInt8.ofNat (b.toNat - 48)] else ds) (if pt then p - 1 else p) (n + 1) pt
    else if b.toNat = 46 ∧ pt = false then scanD t ds p n true
    else (ds, p, n, b :: t)
def decR (s : ByteArray) : Option (List UInt8 × Int) :=
  match scanD s.data.toList [] 0 0 false with
  | (ds, p, n, rest) => if n = 0 then none else match rest with
    | [] => some (ds, p)
    | b :: t => if b.toNat = 101 ∨ b.toNat = 69 then (if (expR ⟨t.toArray⟩).2 then some (ds, p + (expR ⟨t.toArray⟩).1) else none) else none

set_option maxRecDepth 100000 in
theorem res_dec (tmps : Array Value) (b : Nat) (ok : Bool) (hp : tmps.getD 2 undef = .pointer (some ⟨b, 0, none⟩)) (h3 : tmps.getD 3 undef = .bool ok) (W : World) (v0 v1 : Value) (hb : W.heap[b]? = some (.cells #[v0, v1] 46 (0, 0))) :
    (results Tryd.f21 tmps).run Tryd.prog W = .ok (.tuple #[.agg #[v0, v1], .bool ok]) W := by
  rw [results_cell_tmp Tryd.results21]
  have hp' : tmps[2]?.getD undef = .pointer (some ⟨b, 0, none⟩) := by simpa using hp
  have h3' : tmps[3]?.getD undef = .bool ok := by simpa using h3
  have hc0 : W.cell? ⟨b, 0, none⟩ = some v0 := by simp [World.cell?, hb]
  have hc1 : W.cell? ⟨b, 1, none⟩ = some v1 := by simp [World.cell?, hb]
  simp [hp', h3', go_sem, hc0, hc1]

end Go.Proofs.YtinfnkhghmcelaaDoor
