/- Append. -/
import Derived.Test.YtkmclgbiedbfpaaDoorK6
namespace Go.Proofs.YtkmclgbiedbfpaaDoor
open Go.RowKit Go.Maps Go.Shelf

theorem run_store_float (P : Program) (w : World) (a : Addr) (m : Mode) (k : FloatKind) (n : Nat) : (store a (.float k n) m).run P w = stored P w a (.float k n) m := run_store P w a _ m rfl
/-- A time's bits as the whole number that they say. -/
def sg (t : UInt64) : Int := if t.toNat < 9223372036854775808 then (t.toNat : Int) else (t.toNat : Int) - 18446744073709551616
theorem sg_wrap (t : UInt64) : IntKind.u64.wrap (sg t) = (t.toNat : Int) := by
  have := t.toNat_lt
  rw [IntKind.wrap_u64]
  unfold sg
  split <;> omega
theorem sg_in (t : UInt64) : -9223372036854775808 ≤ sg t ∧ sg t ≤ 9223372036854775807 := by
  have := t.toNat_lt
  unfold sg
  split <;> omega
theorem timeB_length (c : Nat) : (timeB c).length ≤ 68 := by
  unfold timeB
  repeat' split
  all_goals simp [wb_length]
theorem valueB_length {lead size x : Nat} (h : lead + size ≤ 64) : (valueB lead size x).length ≤ 77 := by
  unfold valueB
  repeat' split
  all_goals (simp [wb_length]; try omega)
theorem stB_length {s : An} (h : Good s) (x : Sm) : (stB s x).length ≤ 145 := by
  unfold stB
  rw [List.length_append]
  have := timeB_length (chg s x.1.toNat)
  have := valueB_length (x := x.2.toNat ^^^ s.v) h.win
  omega
theorem tailB_length (l : List Sm) (s : An) (h : Good s) : (tailB s l).length ≤ 145 * l.length := by
  induction l generalizing s with
  | nil => simp [tailB]
  | cons x t ih =>
    rw [tailB, List.length_append, List.length_cons]
    have := stB_length h x
    have := ih _ (h.st x)
    omega
theorem encB_length (l : List Sm) : (encB l).length ≤ 128 + 145 * l.length := by
  cases l with
  | nil => simp [encB]
  | cons x t =>
    have := tailB_length t (s1 x) (Good.one x)
    simp only [encB, List.length_append, wb_length, List.length_cons]
    omega
/-- A Writer of these samples. -/
def WrL (w : World) (base P : Nat) (l : List Sm) : Prop := Wr w base P l.length (encB l) (encS l)
theorem floatbits_run (n : Nat) (W : World) : (callFunc 32 #[.float .f64 n]).run Tryd.prog W = .ok (.value (.int .u64 n)) W := by kernel_rfl
/-- What the program's variables hold. -/
structure Laid (w : World) (base : Nat) : Prop where
  tab : Tab w
  steps : Steps w
  one : 1 < base
  two : Tryd.lays29_ren.g 1 < base
theorem Laid.below {w w' : World} {base : Nat} (h : Laid w base) (hb : Below base w w') : Laid w' base := ⟨h.tab.below hb h.two, h.steps.below hb h.one, h.one, h.two⟩
theorem Laid.mono {w : World} {base base' : Nat} (h : Laid w base) (hb : base ≤ base') : Laid w base' := ⟨h.tab, h.steps, Nat.lt_of_lt_of_le h.one hb, Nat.lt_of_lt_of_le h.two hb⟩

set_option maxRecDepth 100000 in
set_option maxHeartbeats 4000000 in
theorem append_any (base P : Nat) (l : List Sm) (x : Sm) (w : World) (h : WrL w base P l) (hl : l.length < 120) (hL : Laid w base) :
    Calls Tryd.prog 15 #[.pointer (some ⟨P, 0, none⟩), .int .i64 (sg x.1), .float .f64 x.2.toNat] w fun e w' => e = .returned (.int .i64 0) ∧ WrL w' base P (l ++ [x]) ∧ Below base w w' := by
  obtain ⟨c0, c2, c3, c4, c5, c6, c7, cf⟩ := Wr.cells h
  have f0 := cf 0
  have f3 := cf 3
  have f5 := cf 5
  have hg := Good.enc l
  have hen := encB_length l
  have hsg := sg_wrap x.1
  have hsi := sg_in x.1
  have hx1 := x.1.toNat_lt
  have hx2 := x.2.toNat_lt
  have hfb := fun W => floatbits_run x.2.toNat W
  have HW : Hid (Wr w base P l.length (encB l) (encS l)) := h
  have HL : Hid (Laid w base) := hL
  have hbP := (Wr.lt h).1
  have hlen : (l ++ [x]).length = l.length + 1 := by simp
  have HLEN : Hid ((l ++ [x]).length = l.length + 1) := hlen
  clear cf h hL
  by_cases h0 : l = []
  · subst h0
    have HFIN : Hid (∀ w', Wr w' base P 1 (wb 64 x.1.toNat ++ wb 64 x.2.toNat) { An.zero with t := x.1.toNat, v := x.2.toNat } → WrL w' base P ([] ++ [x])) := fun w' h => by
      show Wr w' base P 1 (wb 64 x.1.toNat ++ wb 64 x.2.toNat ++ []) (s1 x)
      rw [List.append_nil]
      exact h
    have hw1 : Wr ((w.setCell ⟨P, 3, none⟩ (.int .u64 x.1.toNat)).setCell ⟨P, 5, none⟩ (.int .u64 x.2.toNat)) base P 0 [] { An.zero with t := x.1.toNat, v := x.2.toNat } :=
      Wr.set (s := { An.zero with t := x.1.toNat }) (Wr.set (s := An.zero) (cs := []) HW.out 3 (.int .u64 x.1.toNat) 0 { An.zero with t := x.1.toNat } (fun _ => rfl)) 5 (.int .u64 x.2.toNat) 0 { An.zero with t := x.1.toNat, v := x.2.toNat } (fun _ => rfl)
    have hb1 : Below base w ((w.setCell ⟨P, 3, none⟩ (.int .u64 x.1.toNat)).setCell ⟨P, 5, none⟩ (.int .u64 x.2.toNat)) := ((Below.refl base w).setCell hbP _).setCell hbP _
    have HW1 : Hid (Wr ((w.setCell ⟨P, 3, none⟩ (.int .u64 x.1.toNat)).setCell ⟨P, 5, none⟩ (.int .u64 x.2.toNat)) base P 0 [] { An.zero with t := x.1.toNat, v := x.2.toNat }) := hw1
    have HB1 : Hid (Below base w ((w.setCell ⟨P, 3, none⟩ (.int .u64 x.1.toNat)).setCell ⟨P, 5, none⟩ (.int .u64 x.2.toNat))) := hb1
    clear hw1 hb1 HW
    generalize x.1.toNat = a at *
    generalize x.2.toNat = b at *
    generalize sg x.1 = A at *
    dsimp only [encS, encB, List.length_nil] at c0 c2 c3 c4 c5 c6 c7
    go_enter Tryd.func15, Tryd.ntmps15
    go_wp2
    generalize ((w.setCell ⟨P, 3, none⟩ (.int .u64 a)).setCell ⟨P, 5, none⟩ (.int .u64 b)) = W1 at *
    obtain ⟨-, -, d3, -, d5, -, -, -⟩ := HW1.out.cells
    clear c0 c2 c3 c4 c5 c6 c7 f0 f3 f5
    go_region_held3 (fun w' => w'.cell? ⟨P, 3, none⟩ = some (.int .u64 a) ∧ w'.cell? ⟨P, 5, none⟩ = some (.int .u64 b))
      (first | exact ⟨d3, d5⟩ | exact ⟨e3, e5⟩)
      (first
        | (go_at_call 35; refine (put_of base P 0 _ _ _ HW1.out.drew a 64 a 64 rfl rfl (by omega) (by omega) (by simp)).mono ?_; rintro e w2 ⟨rfl, hw2, hb2, -⟩; obtain ⟨-, -, e3, -, e5, -, -, -⟩ := hw2.cells; have HW2 : Hid (Wr w2 base P 0 ([] ++ wb 64 a) { An.zero with t := a, v := b }) := hw2; have HB2 : Hid (Below base w w2) := HB1.out.drew.trans hb2; clear hw2 hb2))
    clear HW1 HB1 d3 d5
    go_wp2
    go_region_held3 (fun w' => w'.cell? ⟨P, 3, none⟩ = some (.int .u64 a) ∧ w'.cell? ⟨P, 5, none⟩ = some (.int .u64 b))
      (first | exact ⟨e3, e5⟩ | exact ⟨m3, m5⟩)
      (first
        | (go_at_call 35; refine (put_of base P 0 _ _ _ HW2.out.drew b 64 b 64 rfl rfl (by omega) (by omega) (by simp [wb_length])).mono ?_; rintro e w3 ⟨rfl, hw3, hb3, -⟩; obtain ⟨m0, -, m3, -, m5, -, -, mf⟩ := hw3.cells; have HW3 : Hid (Wr w3 base P 0 ([] ++ wb 64 a ++ wb 64 b) { An.zero with t := a, v := b }) := hw3; have HB3 : Hid (Below base w w3) := HB2.out.drew.trans hb3; have mf0 := mf 0; clear hw3 hb3 mf))
    clear HW2 HB2 e3 e5
    go_wp2
    go_ret
    refine ⟨rfl, HFIN.out _ ?_, HB3.out.setCell hbP _⟩
    exact Wr.set (s := { An.zero with t := a, v := b }) (cs := wb 64 a ++ wb 64 b) HW3.out 0 (.int .i64 1) 1 { An.zero with t := a, v := b } (fun _ => rfl)
  · have hl0 : l.length ≠ 0 := fun e => h0 (List.eq_nil_of_length_eq_zero e)
    have HFIN : Hid (∀ w', Wr w' base P (l.length + 1) (encB l ++ timeB (chg (encS l) x.1.toNat) ++ valueB (encS l).lead (encS l).size (x.2.toNat ^^^ (encS l).v)) (stS (encS l) x) → WrL w' base P (l ++ [x])) := fun w' h => by
      unfold WrL
      rw [HLEN.out, encB_snoc l x h0, encS_snoc l x h0, stB, ← List.append_assoc]
      exact h
    have HPT : Hid (Calls Tryd.prog 36 #[.pointer (some ⟨P, 0, none⟩), .int .u64 x.1.toNat] w fun e w' => e = .returned (.tuple #[]) ∧ Wr w' base P l.length (encB l ++ timeB (chg (encS l) x.1.toNat)) { encS l with t := x.1.toNat, d := dlt (encS l) x.1.toNat } ∧ Below base w w') := putTime_any base P l.length (encB l) (encS l) x.1.toNat w HW.out hg hx1 (by omega) HL.out.steps HL.out.one
    have htl := timeB_length (chg (encS l) x.1.toNat)
    have HPV : Hid (∀ w1, Wr w1 base P l.length (encB l ++ timeB (chg (encS l) x.1.toNat)) { encS l with t := x.1.toNat, d := dlt (encS l) x.1.toNat } → Below base w w1 → Calls Tryd.prog 37 #[.pointer (some ⟨P, 0, none⟩), .int .u64 x.2.toNat] w1 fun e w' => e = .returned (.tuple #[]) ∧ Wr w' base P l.length (encB l ++ timeB (chg (encS l) x.1.toNat) ++ valueB (encS l).lead (encS l).size (x.2.toNat ^^^ (encS l).v)) (stS (encS l) x) ∧ Below base w w') := fun w1 h1 h2 =>
      (putValue_any base P l.length _ { encS l with t := x.1.toNat, d := dlt (encS l) x.1.toNat } x.2.toNat w1 h1 ⟨hx1, Nat.mod_lt _ (by decide), hg.v, hg.lead, hg.win⟩ hx2 (by rw [List.length_append]; omega) (HL.out.below h2).tab HL.out.two).mono (fun e w' h => ⟨h.1, h.2.1, h2.trans h.2.2⟩)
    have hi0 : ((l.length : Int) == 0) = false := by simp; omega
    have hi120 : ((l.length : Int) == 120) = false := by simp; omega
    clear HW htl hg hen c2 c3 c4 c5 c6 c7 f3 f5
    generalize x.1.toNat = a at *
    generalize x.2.toNat = b at *
    generalize sg x.1 = A at *
    generalize encB l ++ timeB (chg (encS l) a) = bits1 at *
    generalize bits1 ++ valueB (encS l).lead (encS l).size (b ^^^ (encS l).v) = bits2 at *
    generalize stS (encS l) x = st2 at *
    generalize l.length = n at *
    go_enter Tryd.func15, Tryd.ntmps15
    go_wp2_with (first
      | (go_at_call 36; refine HPT.out.mono ?_; clear HPT; rintro e w1 ⟨rfl, hw1, hb1⟩; have HW1 : Hid (Wr w1 base P n bits1 _) := hw1; have HB1 : Hid (Below base w w1) := hb1; clear hw1 hb1)
      | (go_at_call 37; refine (HPV.out w1 HW1.out HB1.out).mono ?_; clear HPV HW1 HB1; rintro e w2 ⟨rfl, hw2, hb2⟩; obtain ⟨m0, -, -, -, -, -, -, mf⟩ := hw2.cells; have mf0 := mf 0; have HW2 : Hid (Wr w2 base P n bits2 st2) := hw2; have HB2 : Hid (Below base w w2) := hb2; clear hw2 hb2 mf))
    go_ret
    refine ⟨rfl, HFIN.out _ ?_, HB2.out.setCell hbP _⟩
    exact Wr.set HW2.out 0 (.int .i64 ((n : Int) + 1)) (n + 1) st2 (fun _ => rfl)

set_option maxRecDepth 100000 in
set_option maxHeartbeats 1000000 in
theorem append_full (base P : Nat) (l : List Sm) (A : Int) (b : Nat) (w : World) (h : WrL w base P l) (hl : l.length = 120) :
    Calls Tryd.prog 15 #[.pointer (some ⟨P, 0, none⟩), .int .i64 A, .float .f64 b] w fun e w' => e = .returned (.int .i64 5) ∧ w' = w := by
  obtain ⟨c0, -⟩ := Wr.cells h
  rw [hl] at c0
  go_enter Tryd.func15, Tryd.ntmps15
  go_wp2
  go_ret
  exact ⟨rfl, rfl⟩

end Go.Proofs.YtkmclgbiedbfpaaDoor
