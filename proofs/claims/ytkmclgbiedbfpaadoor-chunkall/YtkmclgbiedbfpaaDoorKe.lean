/- takeValue. -/
import Derived.Test.YtkmclgbiedbfpaaDoorKd
namespace Go.Proofs.YtkmclgbiedbfpaaDoor
open Go.RowKit Go.Maps Go.Shelf

theorem step_call1 (w : World) {P : Program} {ops : Array Oper} {o : Oper} {a : Act} {K : Act → World → Prop} {Q : Exit → Act → World → Prop} {E : Prop} (hgd : o.guard = none) (f : Nat) (x : Operand) (t : TypeId)
    (ho : o.op = .call { callee := .value (.func f), args := #[x], argTypes := #[t] }) (v : Value) (hx : a.eval x = v) (he : ∀ args w, (callFunc f args).run P w = .ok (.enter f args) w) (R : Value → World → Prop)
    (hc : Calls P f #[v] w fun e w' => ∃ u, e = .returned u ∧ R u w') (h : ∀ u w', R u w' → K (a.put o.dst u) w') :
    if Region.wanted o (yielded ops a.tmps) = true then Oper.wp P o a w K Q else E := by
  have hw : Region.wanted o (yielded ops a.tmps) = true := by simp [Region.wanted, hgd]
  rw [if_pos hw]
  have hfn : a.eval (.func f) = .func (.func f) #[] #[] := rfl
  unfold Oper.wp execOp
  simp only [ho, resolve, hfn, hx, Sem.run_bind, List.map_toArray, List.map_cons, List.map_nil]
  simp only [Deferred.ofValue, invoke, Sem.run_pure, Result.andThen_ok, Array.append_empty, he]
  refine hc.mono ?_
  rintro e w' ⟨u, rfl, hu⟩
  exact h u w' hu
theorem shl_val {x n tl : Nat} (hx : x < 2 ^ n) (hn : n + tl ≤ 64) : IntKind.u64.wrap ((x : Int) * 2 ^ tl) = ((x <<< tl : Nat) : Int) ∧ x <<< tl < 18446744073709551616 := by
  have h1 : x * 2 ^ tl < 2 ^ n * 2 ^ tl := Nat.mul_lt_mul_of_pos_right hx (Nat.pow_pos (by decide))
  rw [← Nat.pow_add] at h1
  have h2 : 2 ^ (n + tl) ≤ 2 ^ 64 := Nat.pow_le_pow_right (by decide) hn
  have h3 : (2 : Nat) ^ 64 = 18446744073709551616 := rfl
  rw [Nat.shiftLeft_eq]
  refine ⟨?_, by omega⟩
  have : (2 : Int) ^ tl = ((2 ^ tl : Nat) : Int) := by simp
  rw [this, ← Int.natCast_mul, IntKind.wrap_u64]
  omega

theorem takeN_lt {n x : Nat} {r t : List Bool} (h : takeN n r = some (x, t)) : x < 2 ^ n := by
  unfold takeN at h
  split at h
  · rename_i hle9
    simp only [Option.some.injEq, Prod.mk.injEq] at h
    have h8 := vb_lt (r.take n)
    rw [h.1, List.length_take, Nat.min_eq_left hle9] at h8
    exact h8
  · cases h
theorem takeWin_some {s s' : An} {r r' : List Bool} (h : takeWin s r = some (s', r')) : s'.v = s.v ∧ 1 ≤ s'.size ∧ s'.lead ≤ 31 ∧ s'.lead + s'.size ≤ 64 := by
  unfold takeWin at h
  cases h5 : takeN 5 r with
  | none => rw [h5] at h; cases h
  | some p =>
    rw [h5, Option.bind_some] at h
    have := takeN_lt (x := p.1) (t := p.2) h5
    cases h6 : takeN 6 p.2 with
    | none => rw [h6] at h; cases h
    | some q =>
      rw [h6, Option.bind_some] at h
      split at h
      · rename_i hle
        cases h
        exact ⟨rfl, by show 1 ≤ q.1 + 1; omega, by show p.1 ≤ 31; omega, hle⟩
      · cases h

set_option maxRecDepth 100000 in
set_option maxHeartbeats 2000000 in
theorem takeValue_any (w : World) (U : Nat) (v : Value) (ys : List UInt8) (p : Nat) (s : An) (h : Rd w U v ys p s) (hg : Good s) :
    Calls Tryd.prog 55 #[.pointer (some ⟨U, 0, none⟩)] w fun e w' => Says w U v ys (takeValue s ((ub ys).drop p)) e w' := by
  have HG : Hid (Good s) := hg
  cases hb1 : (ub ys).drop p with
  | nil =>
    have ht := take_none (width := 1) h (by omega) (by rw [hb1]; exact takeN_nil)
    clear h hb1
    go_enter Tryd.func55, Tryd.ntmps55
    go_wp2_with (go_at_call 53; refine ht.mono ?_; clear ht; rintro e w1 ⟨rfl, hr1, hk1⟩)
    go_ret
    exact Says.no rfl hr1 hk1
  | cons b t =>
    have ht := take_some (width := 1) h (by omega) (by rw [hb1]; exact takeN_one b t)
    clear h hb1
    cases b with
    | false =>
      go_enter Tryd.func55, Tryd.ntmps55
      go_wp2_with (go_at_call 53; refine ht.mono ?_; clear ht; rintro e w1 ⟨rfl, hr1, hk1, hd1, -⟩)
      go_ret
      exact Says.yes rfl hr1 hk1 hd1
    | true =>
      cases t with
      | nil =>
        have HT2 : Hid (∀ W, Rd W U v ys (p + 1) s → (ub ys).drop (p + 1) = [] → Calls Tryd.prog 53 #[.pointer (some ⟨U, 0, none⟩), .int .i64 1] W fun e w' => e = .returned (.tuple #[.int .u64 0, .bool false]) ∧ Rd w' U v ys (p + 1) s ∧ Kept (fun k => k = U) W w') := fun W h1 h2 => take_none (width := 1) h1 (by omega) (by rw [h2]; exact takeN_nil)
        go_enter Tryd.func55, Tryd.ntmps55
        go_wp2_with (first
          | (go_at_call 53; refine ht.mono ?_; clear ht; rintro e w1 ⟨rfl, hr1, hk1, hd1, -⟩; have HR1 : Hid (Rd w1 U v ys (p + 1) s) := hr1; have HK1 : Hid (Kept (fun k => k = U) w w1) := hk1; have HD1 : Hid ((ub ys).drop (p + 1) = []) := hd1; clear hr1 hk1 hd1)
          | (go_at_call 53; refine (HT2.out w1 HR1.out HD1.out).mono ?_; clear HT2; rintro e w2 ⟨rfl, hr2, hk2⟩))
        go_ret
        exact Says.no rfl hr2 (keptU HK1.out hk2)
      | cons b2 t2 =>
        have HT2 : Hid (∀ W, Rd W U v ys (p + 1) s → (ub ys).drop (p + 1) = b2 :: t2 → Calls Tryd.prog 53 #[.pointer (some ⟨U, 0, none⟩), .int .i64 1] W fun e w' => e = .returned (.tuple #[.int .u64 b2.toNat, .bool true]) ∧ Rd w' U v ys (p + 1 + 1) s ∧ Kept (fun k => k = U) W w' ∧ (ub ys).drop (p + 1 + 1) = t2 ∧ b2.toNat < 2 ^ 1) := fun W h1 h2 => take_some (width := 1) h1 (by omega) (by rw [h2]; exact takeN_one b2 t2)
        cases b2 with
        | false =>
          by_cases hz : s.size = 0
          · have hzi : ((s.size : Int) == 0) = true := by simp; omega
            go_enter Tryd.func55, Tryd.ntmps55
            go_wp2_with (first
              | (go_at_call 53; refine ht.mono ?_; clear ht; rintro e w1 ⟨rfl, hr1, hk1, hd1, -⟩; have HR1 : Hid (Rd w1 U v ys (p + 1) s) := hr1; have HK1 : Hid (Kept (fun k => k = U) w w1) := hk1; have HD1 : Hid ((ub ys).drop (p + 1) = false :: t2) := hd1; clear hr1 hk1 hd1)
              | (go_at_call 53; refine (HT2.out w1 HR1.out HD1.out).mono ?_; clear HT2; rintro e w2 ⟨rfl, hr2, hk2, hd2, -⟩; obtain ⟨-, -, -, -, -, -, c6, -⟩ := hr2.un.cells; have HR2 : Hid (Rd w2 U v ys (p + 1 + 1) s) := hr2; have HK2 : Hid (Kept (fun k => k = U) w w2) := keptU HK1.out hk2; clear hr2 hk2))
            go_ret
            refine Says.no ?_ HR2.out HK2.out
            show takeX s t2 = none
            unfold takeX
            rw [if_pos hz]
          · have hzi : ((s.size : Int) == 0) = false := by simp; omega
            go_enter Tryd.func55, Tryd.ntmps55
            go_wp2_with (first
              | (go_at_call 53; refine ht.mono ?_; clear ht; rintro e w1 ⟨rfl, hr1, hk1, hd1, -⟩; have HR1 : Hid (Rd w1 U v ys (p + 1) s) := hr1; have HK1 : Hid (Kept (fun k => k = U) w w1) := hk1; have HD1 : Hid ((ub ys).drop (p + 1) = false :: t2) := hd1; clear hr1 hk1 hd1)
              | (go_at_call 53; refine (HT2.out w1 HR1.out HD1.out).mono ?_; clear HT2; rintro e w2 ⟨rfl, hr2, hk2, hd2, -⟩; obtain ⟨-, -, -, -, -, -, c6, -⟩ := hr2.un.cells; have HR2 : Hid (Rd w2 U v ys (p + 1 + 1) s) := hr2; have HK2 : Hid (Kept (fun k => k = U) w w2) := keptU HK1.out hk2; have HD2 : Hid ((ub ys).drop (p + 1 + 1) = t2) := hd2; clear hr2 hk2 hd2))
            have hgw := HG.out.win
            obtain ⟨tl, htl⟩ : ∃ tl, tl = 64 - s.lead - s.size := ⟨_, rfl⟩
            have HTLE : Hid (tl = 64 - s.lead - s.size) := htl
            have htl64 : tl ≤ 64 ∧ s.size + tl ≤ 64 ∧ s.size ≤ 64 := by omega
            have HTAIL : Hid (∀ W, Calls Tryd.prog 48 #[.agg #[.int .i64 s.lead, .int .i64 s.size]] W fun e w' => ∃ u, e = .returned u ∧ (u = .int .i64 (tl : Int) ∧ Below W.heap.size W w')) := fun W => (tail_any s.lead s.size W HG.out.win).mono (fun e w' h9 => ⟨_, h9.1, by rw [htl], h9.2⟩)
            have HET : Hid (∀ args w, (callFunc 48 args).run Tryd.prog w = .ok (.enter 48 args) w) := enters_of Tryd.func48 (by kernel_rfl) rfl
            clear htl
            cases hx : takeN s.size t2 with
            | none =>
              have HTK : Hid (∀ W, Rd W U v ys (p + 1 + 1) s → Calls Tryd.prog 53 #[.pointer (some ⟨U, 0, none⟩), .int .i64 s.size] W fun e w' => e = .returned (.tuple #[.int .u64 0, .bool false]) ∧ Rd w' U v ys (p + 1 + 1) s ∧ Kept (fun k => k = U) W w') := fun W h1 => take_none (width := s.size) h1 (by omega) (by rw [HD2.out]; exact hx)
              have HN : Hid (takeX s t2 = none) := by show _ = _; unfold takeX; rw [if_neg (by omega), hx]; rfl
              have hxor : bits .xor .u64 (s.v : Int) (IntKind.u64.wrap 0) = (s.v : Int) := by
                have := u64_xor_nat s.v 0 HG.out.v (by omega)
                rw [Nat.xor_zero] at this
                exact this
              clear hx
              go_region_held3 (fun w' => w'.cell? ⟨U, 6, none⟩ = some (.int .i64 s.size))
                (first | exact c6 | exact d6)
                (first
                  | (go_at_call 53; refine (HTK.out _ (HR2.out.kept ((Kept.refl (fun k => k = U) w2).drewN 1) HR2.out.un HR2.out.le)).mono ?_; rintro e w3 ⟨rfl, hr3, hk3⟩; obtain ⟨-, -, -, -, d4, d5, d6, df⟩ := hr3.un.cells; have df4 := df 4; have HR3 : Hid (Rd w3 U v ys (p + 1 + 1) s) := hr3; have HK3 : Hid (Kept (fun k => k = U) w w3) := keptU (HK2.out.drewN 1) hk3; clear hr3 hk3 df))
              have HC : Hid (∀ W, Below w3.heap.size w3 W → (W.cell? ⟨U, 4, none⟩ = some (.int .u64 s.v) ∧ W.cell? ⟨U, 5, none⟩ = some (.int .i64 s.lead)) ∧ W.cell? ⟨U, 6, none⟩ = some (.int .i64 s.size) ∧ W.frozen? ⟨U, 4, none⟩ = false ∧ Rd W U v ys (p + 1 + 1) s) := fun W hb => by
                have h8 := HR3.out.below hb
                obtain ⟨-, -, -, -, i4, i5, i6, iff⟩ := h8.un.cells
                exact ⟨⟨i4, i5⟩, i6, iff 4, h8⟩
              clear c6 HTK
              go_wp2
              go_region_law (first
                | (refine step_call1 _ (by rfl) 48 _ _ (by rfl) _ (by rfl) HET.out (fun u w' => u = .int .i64 (tl : Int) ∧ Below w3.drew.heap.size w3.drew w') (HTAIL.out _) ?_; rintro u w4 ⟨rfl, hb4⟩; obtain ⟨⟨i4, i5⟩, i6, if4, hr4⟩ := HC.out w4 ((Below.refl _ w3).drew.trans hb4); have HR4 : Hid (Rd w4 U v ys (p + 1 + 1) s) := hr4; have HB4 : Hid (Below w3.heap.size w3 w4) := (Below.refl _ w3).drew.trans hb4; clear hr4 hb4))
              all_goals
                go_wp2
                go_ret
                have hkq : Kept (fun k => k = U) w4 (w4.setCell ⟨U, 4, none⟩ (.int .u64 s.v)) := (Kept.refl (fun k => k = U) w4).un 4 _
                have hu : Un (w4.setCell ⟨U, 4, none⟩ (.int .u64 s.v)) U v (p + 1 + 1) { s with v := s.v } := Un.set HR4.out.un 4 _ (p + 1 + 1) { s with v := s.v } rfl
                have hfin : Rd (w4.setCell ⟨U, 4, none⟩ (.int .u64 s.v)) U v ys (p + 1 + 1) { s with v := s.v } := HR4.out.kept hkq hu HR4.out.le
                exact Says.no HN.out hfin (keptU (keptB HK3.out HB4.out) hkq)
            | some xr =>
              obtain ⟨x, r3⟩ := xr
              have HTK : Hid (∀ W, Rd W U v ys (p + 1 + 1) s → Calls Tryd.prog 53 #[.pointer (some ⟨U, 0, none⟩), .int .i64 s.size] W fun e w' => e = .returned (.tuple #[.int .u64 x, .bool true]) ∧ Rd w' U v ys (p + 1 + 1 + s.size) s ∧ Kept (fun k => k = U) W w' ∧ (ub ys).drop (p + 1 + 1 + s.size) = r3 ∧ x < 2 ^ s.size) := fun W h1 => take_some (width := s.size) h1 (by omega) (by rw [HD2.out]; exact hx)
              have hxl : x < 2 ^ s.size := by
                unfold takeN at hx
                split at hx
                · rename_i hle9
                  simp only [Option.some.injEq, Prod.mk.injEq] at hx
                  have h8 := vb_lt ((t2).take s.size)
                  rw [hx.1, List.length_take, Nat.min_eq_left hle9] at h8
                  exact h8
                · cases hx
              have hshl := (shl_val hxl htl64.2.1).1
              have hshb := (shl_val hxl htl64.2.1).2
              obtain ⟨y, hy⟩ : ∃ y, y = x <<< tl := ⟨_, rfl⟩
              rw [← hy] at hshl hshb
              obtain ⟨nv, hnv⟩ : ∃ nv, nv = s.v ^^^ y := ⟨_, rfl⟩
              have hxor : bits .xor .u64 (s.v : Int) (y : Int) = (nv : Int) := by rw [hnv]; exact u64_xor_nat s.v y HG.out.v hshb
              have HN : Hid (takeX s t2 = some ({ s with v := nv }, r3)) := by show _ = _; unfold takeX; rw [if_neg (by omega), hx, Option.map_some, ← HTLE.out, ← hy, ← hnv]
              have hxu : x < 18446744073709551616 := Nat.lt_of_lt_of_le hxl (Nat.pow_le_pow_right (n := 2) (by decide) (show s.size ≤ 64 by omega))
              clear hx hy hnv hxl
              go_region_held3 (fun w' => w'.cell? ⟨U, 6, none⟩ = some (.int .i64 s.size))
                (first | exact c6 | exact d6)
                (first
                  | (go_at_call 53; refine (HTK.out _ (HR2.out.kept ((Kept.refl (fun k => k = U) w2).drewN 1) HR2.out.un HR2.out.le)).mono ?_; rintro e w3 ⟨rfl, hr3, hk3, hd3, -⟩; obtain ⟨-, -, -, -, d4, d5, d6, df⟩ := hr3.un.cells; have df4 := df 4; have HR3 : Hid (Rd w3 U v ys (p + 1 + 1 + s.size) s) := hr3; have HK3 : Hid (Kept (fun k => k = U) w w3) := keptU (HK2.out.drewN 1) hk3; have HD3 : Hid ((ub ys).drop (p + 1 + 1 + s.size) = r3) := hd3; clear hr3 hk3 df))
              have HC : Hid (∀ W, Below w3.heap.size w3 W → (W.cell? ⟨U, 4, none⟩ = some (.int .u64 s.v) ∧ W.cell? ⟨U, 5, none⟩ = some (.int .i64 s.lead)) ∧ W.cell? ⟨U, 6, none⟩ = some (.int .i64 s.size) ∧ W.frozen? ⟨U, 4, none⟩ = false ∧ Rd W U v ys (p + 1 + 1 + s.size) s) := fun W hb => by
                have h8 := HR3.out.below hb
                obtain ⟨-, -, -, -, i4, i5, i6, iff⟩ := h8.un.cells
                exact ⟨⟨i4, i5⟩, i6, iff 4, h8⟩
              clear c6 HTK
              go_wp2
              go_region_law (first
                | (refine step_call1 _ (by rfl) 48 _ _ (by rfl) _ (by rfl) HET.out (fun u w' => u = .int .i64 (tl : Int) ∧ Below w3.drew.heap.size w3.drew w') (HTAIL.out _) ?_; rintro u w4 ⟨rfl, hb4⟩; obtain ⟨⟨i4, i5⟩, i6, if4, hr4⟩ := HC.out w4 ((Below.refl _ w3).drew.trans hb4); have HR4 : Hid (Rd w4 U v ys (p + 1 + 1 + s.size) s) := hr4; have HB4 : Hid (Below w3.heap.size w3 w4) := (Below.refl _ w3).drew.trans hb4; clear hr4 hb4))
              all_goals
                go_wp2
                go_ret
                have hkq : Kept (fun k => k = U) w4 (w4.setCell ⟨U, 4, none⟩ (.int .u64 nv)) := (Kept.refl (fun k => k = U) w4).un 4 _
                have hu : Un (w4.setCell ⟨U, 4, none⟩ (.int .u64 nv)) U v (p + 1 + 1 + s.size) { s with v := nv } := Un.set HR4.out.un 4 _ (p + 1 + 1 + s.size) { s with v := nv } rfl
                have hfin : Rd (w4.setCell ⟨U, 4, none⟩ (.int .u64 nv)) U v ys (p + 1 + 1 + s.size) { s with v := nv } := HR4.out.kept hkq hu HR4.out.le
                exact Says.yes HN.out hfin (keptU (keptB HK3.out HB4.out) hkq) HD3.out
        | true =>
          have hwin := fun W (h1 : Rd W U v ys (p + 1 + 1) s) => takeWindow_any W U v ys (p + 1 + 1) s h1
          have HWIN : Hid (∀ W, Rd W U v ys (p + 1 + 1) s → (ub ys).drop (p + 1 + 1) = t2 → Calls Tryd.prog 58 #[.pointer (some ⟨U, 0, none⟩)] W fun e w' => Says W U v ys (takeWin s t2) e w') := fun W h1 h2 => by
            have := takeWindow_any W U v ys (p + 1 + 1) s h1
            rw [h2] at this
            exact this
          clear hwin
          cases hw : takeWin s t2 with
          | none =>
            have HN : Hid (takeValue s (true :: true :: t2) = none) := by show _ = _; show (takeWin s t2).bind _ = _; rw [hw]; rfl
            rw [hw] at HWIN
            go_enter Tryd.func55, Tryd.ntmps55
            go_wp2_with (first
              | (go_at_call 53; refine ht.mono ?_; clear ht; rintro e w1 ⟨rfl, hr1, hk1, hd1, -⟩; have HR1 : Hid (Rd w1 U v ys (p + 1) s) := hr1; have HK1 : Hid (Kept (fun k => k = U) w w1) := hk1; have HD1 : Hid ((ub ys).drop (p + 1) = true :: t2) := hd1; clear hr1 hk1 hd1)
              | (go_at_call 53; refine (HT2.out w1 HR1.out HD1.out).mono ?_; clear HT2; rintro e w2 ⟨rfl, hr2, hk2, hd2, -⟩; have HR2 : Hid (Rd w2 U v ys (p + 1 + 1) s) := hr2; have HK2 : Hid (Kept (fun k => k = U) w w2) := keptU HK1.out hk2; have HD2 : Hid ((ub ys).drop (p + 1 + 1) = t2) := hd2; clear hr2 hk2 hd2)
              | (go_at_call 58; refine (HWIN.out w2 HR2.out HD2.out).mono ?_; clear HWIN; rintro e w3 ⟨b3, p3, s3, rfl, hr3, hk3, hn3, -⟩; obtain rfl := hn3 rfl))
            go_ret
            exact Says.no HN.out hr3 (keptU HK2.out hk3)
          | some sr =>
            obtain ⟨s2, r3⟩ := sr
            obtain ⟨hs2v, hs2z, hsw1, hsw2⟩ := takeWin_some hw
            have hsw : s2.lead ≤ 31 ∧ s2.lead + s2.size ≤ 64 := ⟨hsw1, hsw2⟩
            have hsv : s2.v < 18446744073709551616 := by rw [hs2v]; exact HG.out.v
            have HSX : Hid (takeValue s (true :: true :: t2) = takeX s2 r3) := by show _ = _; show (takeWin s t2).bind _ = _; rw [hw]; rfl
            have hz : s2.size ≠ 0 := by omega
            have hzi : ((s2.size : Int) == 0) = false := by simp; omega
            rw [hw] at HWIN
            clear hs2v hw
            go_enter Tryd.func55, Tryd.ntmps55
            go_wp2_with (first
              | (go_at_call 53; refine ht.mono ?_; clear ht; rintro e w1 ⟨rfl, hr1, hk1, hd1, -⟩; have HR1 : Hid (Rd w1 U v ys (p + 1) s) := hr1; have HK1 : Hid (Kept (fun k => k = U) w w1) := hk1; have HD1 : Hid ((ub ys).drop (p + 1) = true :: t2) := hd1; clear hr1 hk1 hd1)
              | (go_at_call 53; refine (HT2.out w1 HR1.out HD1.out).mono ?_; clear HT2; rintro e w2 ⟨rfl, hr2, hk2, hd2, -⟩; have HR2 : Hid (Rd w2 U v ys (p + 1 + 1) s) := hr2; have HK2 : Hid (Kept (fun k => k = U) w w2) := keptU HK1.out hk2; have HD2 : Hid ((ub ys).drop (p + 1 + 1) = t2) := hd2; clear hr2 hk2 hd2)
              | (go_at_call 58; refine (HWIN.out w2 HR2.out HD2.out).mono ?_; clear HWIN; rintro e w3 ⟨b3, p3, s3, rfl, hr3, hk3, -, hs3⟩; obtain ⟨rfl, rfl, hd3⟩ := hs3 _ _ rfl; obtain ⟨-, -, -, -, -, -, c6, -⟩ := hr3.un.cells; have HR3 : Hid (Rd w3 U v ys p3 s3) := hr3; have HK3 : Hid (Kept (fun k => k = U) w w3) := keptU HK2.out hk3; have HD3 : Hid ((ub ys).drop p3 = r3) := hd3; clear hr3 hk3 hd3 hs3))
            obtain ⟨tl, htl⟩ : ∃ tl, tl = 64 - s3.lead - s3.size := ⟨_, rfl⟩
            have HTLE : Hid (tl = 64 - s3.lead - s3.size) := htl
            have htl64 : tl ≤ 64 ∧ s3.size + tl ≤ 64 ∧ s3.size ≤ 64 := by omega
            have HTAIL : Hid (∀ W, Calls Tryd.prog 48 #[.agg #[.int .i64 s3.lead, .int .i64 s3.size]] W fun e w' => ∃ u, e = .returned u ∧ (u = .int .i64 (tl : Int) ∧ Below W.heap.size W w')) := fun W => (tail_any s3.lead s3.size W hsw.2).mono (fun e w' h9 => ⟨_, h9.1, by rw [htl], h9.2⟩)
            have HET : Hid (∀ args w, (callFunc 48 args).run Tryd.prog w = .ok (.enter 48 args) w) := enters_of Tryd.func48 (by kernel_rfl) rfl
            clear htl
            cases hx : takeN s3.size r3 with
            | none =>
              have HTK : Hid (∀ W, Rd W U v ys (p3) s3 → Calls Tryd.prog 53 #[.pointer (some ⟨U, 0, none⟩), .int .i64 s3.size] W fun e w' => e = .returned (.tuple #[.int .u64 0, .bool false]) ∧ Rd w' U v ys (p3) s3 ∧ Kept (fun k => k = U) W w') := fun W h1 => take_none (width := s3.size) h1 (by omega) (by rw [HD3.out]; exact hx)
              have HN : Hid (takeX s3 r3 = none) := by show _ = _; unfold takeX; rw [if_neg (by omega), hx]; rfl
              have hxor : bits .xor .u64 (s3.v : Int) (IntKind.u64.wrap 0) = (s3.v : Int) := by
                have := u64_xor_nat s3.v 0 hsv (by omega)
                rw [Nat.xor_zero] at this
                exact this
              clear hx
              go_region_held3 (fun w' => w'.cell? ⟨U, 6, none⟩ = some (.int .i64 s3.size))
                (first | exact c6 | exact d6)
                (first
                  | (go_at_call 53; refine (HTK.out _ (HR3.out.kept ((Kept.refl (fun k => k = U) w3).drewN 1) HR3.out.un HR3.out.le)).mono ?_; rintro e w9 ⟨rfl, hr3, hk3⟩; obtain ⟨-, -, -, -, d4, d5, d6, df⟩ := hr3.un.cells; have df4 := df 4; have HR9 : Hid (Rd w9 U v ys (p3) s3) := hr3; have HK9 : Hid (Kept (fun k => k = U) w w9) := keptU (HK3.out.drewN 1) hk3; clear hr3 hk3 df))
              have HC : Hid (∀ W, Below w9.heap.size w9 W → (W.cell? ⟨U, 4, none⟩ = some (.int .u64 s3.v) ∧ W.cell? ⟨U, 5, none⟩ = some (.int .i64 s3.lead)) ∧ W.cell? ⟨U, 6, none⟩ = some (.int .i64 s3.size) ∧ W.frozen? ⟨U, 4, none⟩ = false ∧ Rd W U v ys (p3) s3) := fun W hb => by
                have h8 := HR9.out.below hb
                obtain ⟨-, -, -, -, i4, i5, i6, iff⟩ := h8.un.cells
                exact ⟨⟨i4, i5⟩, i6, iff 4, h8⟩
              clear c6 HTK
              go_wp2
              go_region_law (first
                | (refine step_call1 _ (by rfl) 48 _ _ (by rfl) _ (by rfl) HET.out (fun u w' => u = .int .i64 (tl : Int) ∧ Below w9.drew.heap.size w9.drew w') (HTAIL.out _) ?_; rintro u w4 ⟨rfl, hb4⟩; obtain ⟨⟨i4, i5⟩, i6, if4, hr4⟩ := HC.out w4 ((Below.refl _ w9).drew.trans hb4); have HR4 : Hid (Rd w4 U v ys (p3) s3) := hr4; have HB4 : Hid (Below w9.heap.size w9 w4) := (Below.refl _ w9).drew.trans hb4; clear hr4 hb4))
              all_goals
                go_wp2
                go_ret
                have hkq : Kept (fun k => k = U) w4 (w4.setCell ⟨U, 4, none⟩ (.int .u64 s3.v)) := (Kept.refl (fun k => k = U) w4).un 4 _
                have hu : Un (w4.setCell ⟨U, 4, none⟩ (.int .u64 s3.v)) U v (p3) { s3 with v := s3.v } := Un.set HR4.out.un 4 _ (p3) { s3 with v := s3.v } rfl
                have hfin : Rd (w4.setCell ⟨U, 4, none⟩ (.int .u64 s3.v)) U v ys (p3) { s3 with v := s3.v } := HR4.out.kept hkq hu HR4.out.le
                exact Says.no (HSX.out.trans HN.out) hfin (keptU (keptB HK9.out HB4.out) hkq)
            | some xr =>
              obtain ⟨x, r4⟩ := xr
              have HTK : Hid (∀ W, Rd W U v ys (p3) s3 → Calls Tryd.prog 53 #[.pointer (some ⟨U, 0, none⟩), .int .i64 s3.size] W fun e w' => e = .returned (.tuple #[.int .u64 x, .bool true]) ∧ Rd w' U v ys (p3 + s3.size) s3 ∧ Kept (fun k => k = U) W w' ∧ (ub ys).drop (p3 + s3.size) = r4 ∧ x < 2 ^ s3.size) := fun W h1 => take_some (width := s3.size) h1 (by omega) (by rw [HD3.out]; exact hx)
              have hxl : x < 2 ^ s3.size := by
                unfold takeN at hx
                split at hx
                · rename_i hle9
                  simp only [Option.some.injEq, Prod.mk.injEq] at hx
                  have h8 := vb_lt ((r3).take s3.size)
                  rw [hx.1, List.length_take, Nat.min_eq_left hle9] at h8
                  exact h8
                · cases hx
              have hshl := (shl_val hxl htl64.2.1).1
              have hshb := (shl_val hxl htl64.2.1).2
              obtain ⟨y, hy⟩ : ∃ y, y = x <<< tl := ⟨_, rfl⟩
              rw [← hy] at hshl hshb
              obtain ⟨nv, hnv⟩ : ∃ nv, nv = s3.v ^^^ y := ⟨_, rfl⟩
              have hxor : bits .xor .u64 (s3.v : Int) (y : Int) = (nv : Int) := by rw [hnv]; exact u64_xor_nat s3.v y hsv hshb
              have HN : Hid (takeX s3 r3 = some ({ s3 with v := nv }, r4)) := by show _ = _; unfold takeX; rw [if_neg (by omega), hx, Option.map_some, ← HTLE.out, ← hy, ← hnv]
              have hxu : x < 18446744073709551616 := Nat.lt_of_lt_of_le hxl (Nat.pow_le_pow_right (n := 2) (by decide) (show s3.size ≤ 64 by omega))
              clear hx hy hnv hxl
              go_region_held3 (fun w' => w'.cell? ⟨U, 6, none⟩ = some (.int .i64 s3.size))
                (first | exact c6 | exact d6)
                (first
                  | (go_at_call 53; refine (HTK.out _ (HR3.out.kept ((Kept.refl (fun k => k = U) w3).drewN 1) HR3.out.un HR3.out.le)).mono ?_; rintro e w9 ⟨rfl, hr3, hk3, hd3, -⟩; obtain ⟨-, -, -, -, d4, d5, d6, df⟩ := hr3.un.cells; have df4 := df 4; have HR9 : Hid (Rd w9 U v ys (p3 + s3.size) s3) := hr3; have HK9 : Hid (Kept (fun k => k = U) w w9) := keptU (HK3.out.drewN 1) hk3; have HD9 : Hid ((ub ys).drop (p3 + s3.size) = r4) := hd3; clear hr3 hk3 df))
              have HC : Hid (∀ W, Below w9.heap.size w9 W → (W.cell? ⟨U, 4, none⟩ = some (.int .u64 s3.v) ∧ W.cell? ⟨U, 5, none⟩ = some (.int .i64 s3.lead)) ∧ W.cell? ⟨U, 6, none⟩ = some (.int .i64 s3.size) ∧ W.frozen? ⟨U, 4, none⟩ = false ∧ Rd W U v ys (p3 + s3.size) s3) := fun W hb => by
                have h8 := HR9.out.below hb
                obtain ⟨-, -, -, -, i4, i5, i6, iff⟩ := h8.un.cells
                exact ⟨⟨i4, i5⟩, i6, iff 4, h8⟩
              clear c6 HTK
              go_wp2
              go_region_law (first
                | (refine step_call1 _ (by rfl) 48 _ _ (by rfl) _ (by rfl) HET.out (fun u w' => u = .int .i64 (tl : Int) ∧ Below w9.drew.heap.size w9.drew w') (HTAIL.out _) ?_; rintro u w4 ⟨rfl, hb4⟩; obtain ⟨⟨i4, i5⟩, i6, if4, hr4⟩ := HC.out w4 ((Below.refl _ w9).drew.trans hb4); have HR4 : Hid (Rd w4 U v ys (p3 + s3.size) s3) := hr4; have HB4 : Hid (Below w9.heap.size w9 w4) := (Below.refl _ w9).drew.trans hb4; clear hr4 hb4))
              all_goals
                go_wp2
                go_ret
                have hkq : Kept (fun k => k = U) w4 (w4.setCell ⟨U, 4, none⟩ (.int .u64 nv)) := (Kept.refl (fun k => k = U) w4).un 4 _
                have hu : Un (w4.setCell ⟨U, 4, none⟩ (.int .u64 nv)) U v (p3 + s3.size) { s3 with v := nv } := Un.set HR4.out.un 4 _ (p3 + s3.size) { s3 with v := nv } rfl
                have hfin : Rd (w4.setCell ⟨U, 4, none⟩ (.int .u64 nv)) U v ys (p3 + s3.size) { s3 with v := nv } := HR4.out.kept hkq hu HR4.out.le
                exact Says.yes (HSX.out.trans HN.out) hfin (keptU (keptB HK9.out HB4.out) hkq) HD9.out

end Go.Proofs.YtkmclgbiedbfpaaDoor
