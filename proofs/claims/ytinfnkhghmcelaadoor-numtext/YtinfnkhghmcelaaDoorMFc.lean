/- A float's text: with a power of ten, and without. -/
import Derived.Test.YtinfnkhghmcelaaDoorMFa
namespace Go.Proofs.YtinfnkhghmcelaaDoor
open Go.RowKit Go.Maps

set_option maxRecDepth 100000 in
theorem repeat_any (c : Nat) (hc : c ≤ 60) (w : World) : Calls Tryd.prog 73 #[.string ⟨#[48]⟩, .int .i64 c] w fun e w' => e = .returned (.string ⟨(List.replicate c 48).toArray⟩) ∧ w' = w := by
  rcases (show c = 0 ∨ c = 1 ∨ 2 ≤ c by omega) with rfl | rfl | h
  · exact repeat_zero _ w
  · go_enter Tryd.func73, Tryd.ntmps73
    go_wp2
    go_ret
    exact ⟨rfl, rfl⟩
  · exact repeat_more c h hc w
/-- 0.digits times ten to the e, without a power of ten. -/
def plainR (d : List UInt8) (e : Int) : List UInt8 :=
  if e ≤ 0 then 48 :: 46 :: (List.replicate (-e).toNat 48 ++ d) else if (d.length : Int) ≤ e then d ++ List.replicate (e - d.length).toNat 48 else d.take e.toNat ++ 46 :: d.drop e.toNat
theorem ba_two (a b c : List UInt8) : ((⟨a.toArray⟩ : ByteArray) ++ ⟨b.toArray⟩ ++ ⟨c.toArray⟩) = ⟨(a ++ b ++ c).toArray⟩ := by
  apply ByteArray.ext
  simp

set_option maxRecDepth 100000 in
theorem plain_any (d : List UInt8) (e : Int) (w : World) (hd : d.length ≤ 30) (h1 : -5 ≤ e) (h2 : e ≤ 21) : Calls Tryd.prog 42 #[.string ⟨d.toArray⟩, .int .i64 e] w fun r w' => r = .returned (.string ⟨(plainR d e).toArray⟩) ∧ Below w.heap.size w w' := by
  have hsz : (⟨d.toArray⟩ : ByteArray).size = d.length := by simp [ByteArray.size]
  by_cases he : e ≤ 0
  · have hr := repeat_any (-e).toNat (by omega) w
    have HR : Hid ((⟨#[48, 46]⟩ : ByteArray) ++ ⟨(List.replicate (-e).toNat (48 : UInt8)).toArray⟩ ++ ⟨d.toArray⟩ = ⟨(plainR d e).toArray⟩) := by
      show _ = _
      unfold plainR
      rw [if_pos he]
      exact ba_two [48, 46] _ _
    rw [show (((-e).toNat : Nat) : Int) = -e by omega] at hr
    have hsr : (⟨(List.replicate (-e).toNat (48 : UInt8)).toArray⟩ : ByteArray).size ≤ 5 := by simp [ByteArray.size]; omega
    generalize (⟨(List.replicate (-e).toNat (48 : UInt8)).toArray⟩ : ByteArray) = Z at *
    generalize (⟨d.toArray⟩ : ByteArray) = S at *
    go_enter Tryd.func42, Tryd.ntmps42
    go_wp2_with (go_at_call 73; refine hr.mono ?_; clear hr; rintro r w1 ⟨rfl, hw1⟩; have hw1 := hw1.symm; subst hw1)
    go_ret
    exact ⟨by rw [← HR.out]; rfl, Below.refl _ _⟩
  · by_cases hl : (d.length : Int) ≤ e
    · have hr := repeat_any (e - d.length).toNat (by omega) w
      have HR : Hid ((⟨d.toArray⟩ : ByteArray) ++ ⟨(List.replicate (e - d.length).toNat (48 : UInt8)).toArray⟩ = ⟨(plainR d e).toArray⟩) := by
        show _ = _
        unfold plainR
        rw [if_neg he, if_pos hl]
        apply ByteArray.ext
        simp
      rw [show (((e - d.length).toNat : Nat) : Int) = e - d.length by omega] at hr
      have hsr : (⟨(List.replicate (e - d.length).toNat (48 : UInt8)).toArray⟩ : ByteArray).size ≤ 30 := by simp [ByteArray.size]; omega
      generalize (⟨(List.replicate (e - d.length).toNat (48 : UInt8)).toArray⟩ : ByteArray) = Z at *
      generalize (⟨d.toArray⟩ : ByteArray) = S at *
      go_enter Tryd.func42, Tryd.ntmps42
      go_wp2_with (go_at_call 73; refine hr.mono ?_; clear hr; rintro r w1 ⟨rfl, hw1⟩; have hw1 := hw1.symm; subst hw1)
      go_ret
      exact ⟨by rw [← HR.out]; rfl, Below.refl _ _⟩
    · obtain ⟨k, rfl⟩ : ∃ k : Nat, e = k := ⟨e.toNat, by omega⟩
      have hkl : k < d.length := by omega
      have hx1 : (⟨d.toArray⟩ : ByteArray).extract 0 k = ⟨(d.take k).toArray⟩ := by
        apply ByteArray.ext
        simp
      have hx2 : (⟨d.toArray⟩ : ByteArray).extract k d.length = ⟨(d.drop k).toArray⟩ := by
        apply ByteArray.ext
        simp
        exact List.take_of_length_le (by simp)
      have HR : Hid ((⟨(d.take k).toArray⟩ : ByteArray) ++ ⟨#[46]⟩ ++ ⟨(d.drop k).toArray⟩ = ⟨(plainR d k).toArray⟩) := by
        show _ = _
        unfold plainR
        rw [if_neg he, if_neg hl, Int.toNat_natCast]
        apply ByteArray.ext
        simp
      have hs1 : (⟨(d.take k).toArray⟩ : ByteArray).size ≤ 30 := by simp [ByteArray.size]; omega
      have hs2 : (⟨(d.drop k).toArray⟩ : ByteArray).size ≤ 30 := by simp [ByteArray.size]; omega
      generalize (⟨(d.take k).toArray⟩ : ByteArray) = S1 at *
      generalize (⟨(d.drop k).toArray⟩ : ByteArray) = S2 at *
      generalize (⟨d.toArray⟩ : ByteArray) = S at *
      generalize d.length = n at *
      go_enter Tryd.func42, Tryd.ntmps42
      go_wp2
      go_region
      go_wp2
      go_ret
      exact ⟨by rw [← HR.out]; rfl, rfl, rfl, rfl, Nat.le_refl _, fun _ _ => rfl⟩
end Go.Proofs.YtinfnkhghmcelaaDoor
