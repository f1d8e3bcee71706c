/- A file's bytes are told; a disk is asked. -/
import Derived.Test.YtihoccaaecmcfaaWc
namespace Go.Proofs.Ytihoccaaecmcfaa
open Go.RowKit Go.Maps Go.Sort
open Go.WideMaps Go.WideElems

theorem bytesClone {w : World} {v : Value} {bs : List UInt8} (h : w.ownsRow 0 5 1 v bs.length (byteVals bs)) (hl : bs.length ≤ 1000000000) :
    Calls Try.prog 53 #[v] w fun e w' => ∃ v', e = .returned v' ∧ w'.ownsRow w.heap.size 5 1 v' bs.length (byteVals bs) ∧ Below w.heap.size w w' := by
  rcases h.2 with ⟨rfl, h0⟩ | ⟨g, cap, cur, rfl, _⟩
  · refine (Try.bytes_Clone_nil 0 0 w).mono fun e w' ⟨he, hw⟩ => ⟨_, he, ?_, hw ▸ Below.refl _ _⟩
    have : bs = [] := List.eq_nil_of_length_eq_zero h0
    subst this
    exact World.ownsRow_nil _ _ _ _
  · have e1 : (bs.map fun b => (b.toNat : Int)).map (Value.int .u8) = byteVals bs := by simp [byteVals]
    refine (Try.bytes_Clone_at ⟨g, 0, none⟩ bs.length cap (bs.map fun b => (b.toNat : Int)) w (by simp) (by omega) (fun i hi => ?_)).mono fun e w' ⟨v', he, hr, _, hb⟩ => ⟨v', he, by rw [e1] at hr; exact hr, hb⟩
    refine h.cells (g := g) rfl i _ ?_
    simp [byteVals, List.getD, hi]

section
variable {w : World} {d : Nat} {s : St} (h : IsDisk w d s) (name : ByteArray)
include h

set_option maxHeartbeats 1000000 in
theorem read_bad (hs : name.size ≤ maxLen) (hr : rn name = false) :
    Calls Try.prog 19 #[.pointer (some ⟨d, 0, none⟩), .string name] w fun e w' => e = .returned (.tuple #[.slice none 0 0, .int .i64 2]) ∧ w' = w := by
  go_enter Try.func19, Try.ntmps19
  go_wp2_with (go_at_call 45; refine (find_bad _ _ _ hs hr).mono ?_; rintro e w2 ⟨rfl, rfl⟩)
  go_ret2
  exact ⟨rfl, rfl⟩

set_option maxHeartbeats 1000000 in
theorem read_none (hs : name.size ≤ maxLen) (hr : rn name = true) (hat : s.N.atKey (.string name.data.toList) .nil = .nil) :
    Calls Try.prog 19 #[.pointer (some ⟨d, 0, none⟩), .string name] w fun e w' => e = .returned (.tuple #[.slice none 0 0, .int .i64 3]) ∧ w' = w := by
  have HA : Hid (s.N.atKey (.string name.data.toList) .nil = .nil) := hat
  clear hat
  go_enter Try.func19, Try.ntmps19
  go_wp2_with (go_at_call 45; refine (find_none _ _ _ _ _ _ _ _ _ _ _ _ _ hs hr h.at_ h.mN HA.out).mono ?_; rintro e w2 ⟨rfl, rfl⟩)
  go_ret2
  exact ⟨rfl, rfl⟩

set_option maxHeartbeats 1000000 in
theorem read_ok (hs : name.size ≤ maxLen) (hr : rn name = true) (f : Nat) (hat : s.N.atKey (.string name.data.toList) .nil = .lit (.int .i64 f)) (v : Value) (bs : List UInt8) (dur : Int) (hf : FileAt w f v bs dur) (hl : bs.length ≤ 1000000000) :
    Calls Try.prog 19 #[.pointer (some ⟨d, 0, none⟩), .string name] w fun e w' => ∃ v', e = .returned (.tuple #[v', .int .i64 0]) ∧ w'.ownsRow w.heap.size 5 1 v' bs.length (byteVals bs) ∧ Below w.heap.size w w' := by
  have HA : Hid (s.N.atKey (.string name.data.toList) .nil = .lit (.int .i64 f)) := hat
  clear hat
  obtain ⟨f0, f1, ff0, ff1⟩ := hf.cells
  go_enter Try.func19, Try.ntmps19
  go_wp2_with (first | (go_at_call 45; refine (find_some _ _ _ _ _ _ _ _ _ _ _ _ _ f hs hr h.at_ h.mN HA.out).mono ?_; rintro e w2 ⟨rfl, rfl⟩) | (go_at_call 53; refine (bytesClone hf.row hl).mono ?_; rintro e w3 ⟨v', rfl, hr3, hb3⟩))
  go_ret2
  exact ⟨v', rfl, hr3, hb3⟩

set_option maxHeartbeats 1000000 in
theorem used_any : Calls Try.prog 28 #[.pointer (some ⟨d, 0, none⟩)] w fun e w' => e = .returned (.int .i64 s.used) ∧ w' = w := by
  obtain ⟨c0, c1, c2, c3, c4, c5, c6, c7, cf⟩ := h.at_.cells
  go_enter Try.func28, Try.ntmps28
  go_wp2
  go_ret
  exact ⟨rfl, rfl⟩
end

end Go.Proofs.Ytihoccaaecmcfaa
