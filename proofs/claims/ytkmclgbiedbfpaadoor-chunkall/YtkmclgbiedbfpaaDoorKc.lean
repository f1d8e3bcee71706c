/- takeTime, takeWindow. -/
import Derived.Test.YtkmclgbiedbfpaaDoorKb
namespace Go.Proofs.YtkmclgbiedbfpaaDoor
open Go.RowKit Go.Maps Go.Shelf

/-- What a step of reading says. -/
def Says (w : World) (U : Nat) (v : Value) (ys : List UInt8) (res : Option (An × List Bool)) (e : Ending) (w' : World) : Prop :=
  ∃ (b : Bool) (p' : Nat) (s' : An), e = .returned (.bool b) ∧ Rd w' U v ys p' s' ∧ Kept (fun k => k = U) w w' ∧ (res = none → b = false) ∧ ∀ s'' r, res = some (s'', r) → b = true ∧ s' = s'' ∧ (ub ys).drop p' = r
theorem Says.no {w : World} {U : Nat} {v : Value} {ys : List UInt8} {res : Option (An × List Bool)} {w' : World} (hr : res = none) {p' : Nat} {s' : An} (h1 : Rd w' U v ys p' s') (h2 : Kept (fun k => k = U) w w') : Says w U v ys res (.returned (.bool false)) w' :=
  ⟨false, p', s', rfl, h1, h2, fun _ => rfl, fun c' r e => by rw [hr] at e; cases e⟩
theorem Says.yes {w : World} {U : Nat} {v : Value} {ys : List UInt8} {res : Option (An × List Bool)} {w' : World} {s' : An} {r : List Bool} (hr : res = some (s', r)) {p' : Nat} (h1 : Rd w' U v ys p' s') (h2 : Kept (fun k => k = U) w w') (h3 : (ub ys).drop p' = r) : Says w U v ys res (.returned (.bool true)) w' :=
  ⟨true, p', s', rfl, h1, h2, (fun e => by rw [hr] at e; cases e), fun c' r' e => by rw [hr] at e; cases e; exact ⟨rfl, rfl, h3⟩⟩

set_option maxRecDepth 100000 in
set_option maxHeartbeats 2000000 in
theorem takeTime_any (w : World) (U : Nat) (v : Value) (ys : List UInt8) (p : Nat) (s : An) (h : Rd w U v ys p s) (hg : Good s) (hS : Steps w) (hU : U ≠ 1) :
    Calls Tryd.prog 54 #[.pointer (some ⟨U, 0, none⟩)] w fun e w' => Says w U v ys (takeTime s ((ub ys).drop p)) e w' := by
  have hch := takeChange_any w U v ys p s h hS hU
  have hst := hg.t
  have hsd := hg.d
  have HF : Hid (∀ (c : Nat) (b : Bool) (p' : Nat) (W : World), Rd W U v ys p' { s with d := (s.d + c) % 18446744073709551616, t := (s.t + (s.d + c) % 18446744073709551616) % 18446744073709551616 } → Kept (fun k => k = U) w W → (takeChange ((ub ys).drop p) = none → b = false) → (∀ c' r, takeChange ((ub ys).drop p) = some (c', r) → b = true ∧ c = c' ∧ (ub ys).drop p' = r) → Says w U v ys (takeTime s ((ub ys).drop p)) (.returned (.bool b)) W) := fun c b p' W h1 h2 h3 h4 => by
    unfold takeTime
    cases hc : takeChange ((ub ys).drop p) with
    | none =>
      rw [h3 hc]
      exact Says.no rfl h1 h2
    | some cr =>
      obtain ⟨c', r⟩ := cr
      obtain ⟨rfl, rfl, h5⟩ := h4 _ _ hc
      exact Says.yes rfl h1 h2 h5
  clear h hg hS
  go_enter Tryd.func54, Tryd.ntmps54
  go_wp2_with (go_at_call 57; refine hch.mono ?_; clear hch; rintro e w1 ⟨c, b, p', rfl, hc, hr1, hk1, hn1, hs1⟩; obtain ⟨-, -, c2, c3, -, -, -, cf⟩ := hr1.un.cells; have f2 := cf 2; have f3 := cf 3; have HR1 : Hid (Rd w1 U v ys p' s) := hr1; have HK1 : Hid (Kept (fun k => k = U) w w1) := hk1; have HN1 : Hid (takeChange ((ub ys).drop p) = none → b = false) := hn1; have HS1 : Hid (∀ c' r, takeChange ((ub ys).drop p) = some (c', r) → b = true ∧ c = c' ∧ (ub ys).drop p' = r) := hs1; obtain ⟨dd, hdd⟩ : ∃ dd, dd = (s.d + c) % 18446744073709551616 := ⟨_, rfl⟩; obtain ⟨tt, htt⟩ : ∃ tt, tt = (s.t + dd) % 18446744073709551616 := ⟨_, rfl⟩; have ed : IntKind.u64.wrap ((s.d : Int) + c) = (dd : Int) := (by rw [IntKind.wrap_u64, hdd]; omega); have et : IntKind.u64.wrap ((s.t : Int) + dd) = (tt : Int) := (by rw [IntKind.wrap_u64, htt]; omega); have HDD : Hid (dd = (s.d + c) % 18446744073709551616) := hdd; have HTT : Hid (tt = (s.t + dd) % 18446744073709551616) := htt; clear cf hr1 hk1 hn1 hs1 hdd htt)
  go_region
  go_wp2
  go_ret
  have hkq : Kept (fun k => k = U) w1 ((w1.setCell ⟨U, 3, none⟩ (.int .u64 dd)).setCell ⟨U, 2, none⟩ (.int .u64 tt)) := ((Kept.refl (fun k => k = U) w1).un 3 _).un 2 _
  have hu : Un ((w1.setCell ⟨U, 3, none⟩ (.int .u64 dd)).setCell ⟨U, 2, none⟩ (.int .u64 tt)) U v p' { s with d := dd, t := tt } := Un.set (s := { s with d := dd }) (Un.set HR1.out.un 3 _ p' { s with d := dd } rfl) 2 _ p' { s with d := dd, t := tt } rfl
  have hfin := HF.out c b p' ((w1.setCell ⟨U, 3, none⟩ (.int .u64 dd)).setCell ⟨U, 2, none⟩ (.int .u64 tt)).drew
  rw [← HDD.out, ← HTT.out] at hfin
  exact hfin (HR1.out.kept (hkq.drewN 1) hu HR1.out.le) (keptU HK1.out (hkq.drewN 1)) HN1.out HS1.out

end Go.Proofs.YtkmclgbiedbfpaaDoor
