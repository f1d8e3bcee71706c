/- Samples as bits, and back. -/
import Derived.Test.YtkmclgbiedbfpaaDoorK0
namespace Go.Proofs.YtkmclgbiedbfpaaDoor

abbrev Sm := UInt64 × UInt64
/-- what is known of the samples ahead -/
structure An where
  t : Nat
  d : Nat
  v : Nat
  lead : Nat
  size : Nat
def An.zero : An := ⟨0, 0, 0, 0, 0⟩
def dlt (s : An) (t : Nat) : Nat := (t + (18446744073709551616 - s.t)) % 18446744073709551616
def chg (s : An) (t : Nat) : Nat := (dlt s t + (18446744073709551616 - s.d)) % 18446744073709551616
def timeB (c : Nat) : List Bool :=
  if c = 0 then wb 1 0
  else if (c + 63) % 18446744073709551616 < 128 then wb 2 2 ++ wb 7 ((c + 63) % 18446744073709551616)
  else if (c + 255) % 18446744073709551616 < 512 then wb 3 6 ++ wb 9 ((c + 255) % 18446744073709551616)
  else if (c + 2047) % 18446744073709551616 < 4096 then wb 4 14 ++ wb 12 ((c + 2047) % 18446744073709551616)
  else wb 4 15 ++ wb 64 c
def lz (x : Nat) : Nat := min (64 - Lib.bitLen x) 31
def tz (x : Nat) : Nat := Lib.ctz 64 x
/-- does the window hold x? -/
def held (lead size x : Nat) : Prop := lead ≤ lz x ∧ 64 - lead - size ≤ tz x
instance (lead size x : Nat) : Decidable (held lead size x) := inferInstanceAs (Decidable (_ ∧ _))
def valueB (lead size x : Nat) : List Bool :=
  if x = 0 then wb 1 0
  else if held lead size x then wb 2 2 ++ wb size (x >>> (64 - lead - size))
  else wb 2 3 ++ wb 5 (lz x) ++ wb 6 (63 - lz x - tz x) ++ wb (64 - lz x - tz x) (x >>> tz x)
def winL (lead size x : Nat) : Nat := if x = 0 then lead else if held lead size x then lead else lz x
def winS (lead size x : Nat) : Nat := if x = 0 then size else if held lead size x then size else 64 - lz x - tz x
def stB (s : An) (x : Sm) : List Bool := timeB (chg s x.1.toNat) ++ valueB s.lead s.size (x.2.toNat ^^^ s.v)
def stS (s : An) (x : Sm) : An := ⟨x.1.toNat, dlt s x.1.toNat, x.2.toNat, winL s.lead s.size (x.2.toNat ^^^ s.v), winS s.lead s.size (x.2.toNat ^^^ s.v)⟩
def s1 (x : Sm) : An := ⟨x.1.toNat, 0, x.2.toNat, 0, 0⟩
def tailB : An → List Sm → List Bool
  | _, [] => []
  | s, x :: t => stB s x ++ tailB (stS s x) t
def encB : List Sm → List Bool
  | [] => []
  | x :: t => wb 64 x.1.toNat ++ wb 64 x.2.toNat ++ tailB (s1 x) t
def encS : List Sm → An
  | [] => An.zero
  | x :: t => t.foldl stS (s1 x)
def encR (l : List Sm) : List UInt8 := UInt8.ofNat (l.length / 256) :: UInt8.ofNat l.length :: pk (encB l)
theorem tailB_snoc (s : An) (l : List Sm) (x : Sm) : tailB s (l ++ [x]) = tailB s l ++ stB (l.foldl stS s) x := by
  induction l generalizing s with
  | nil => simp [tailB]
  | cons y t ih => simp [tailB, ih]
theorem encB_snoc (l : List Sm) (x : Sm) (h : l ≠ []) : encB (l ++ [x]) = encB l ++ stB (encS l) x := by
  cases l with
  | nil => exact absurd rfl h
  | cons y t => simp [encB, encS, tailB_snoc]
theorem encS_snoc (l : List Sm) (x : Sm) (h : l ≠ []) : encS (l ++ [x]) = stS (encS l) x := by
  cases l with
  | nil => exact absurd rfl h
  | cons y t => simp [encS]
/-- what holds of it -/
structure Good (s : An) : Prop where
  t : s.t < 18446744073709551616
  d : s.d < 18446744073709551616
  v : s.v < 18446744073709551616
  lead : s.lead ≤ 31
  win : s.lead + s.size ≤ 64
theorem pow64 : (2 : Nat) ^ 64 = 18446744073709551616 := rfl
theorem xor_lt {a b : Nat} (h1 : a < 18446744073709551616) (h2 : b < 18446744073709551616) : a ^^^ b < 18446744073709551616 := Nat.xor_lt_two_pow (n := 64) h1 h2
theorem tz_lt {x : Nat} (h0 : x ≠ 0) (h : x < 18446744073709551616) : tz x < 64 := (Lib.lowest_bit 64 x h0 h).2
theorem tz_dvd {x : Nat} (h0 : x ≠ 0) (h : x < 18446744073709551616) : ∃ m, x = 2 ^ tz x * (2 * m + 1) := by
  obtain ⟨m, hm, _⟩ := Lib.ctzFrom_spec 64 x (by omega) h
  have e : tz x = Lib.ctzFrom 64 x := by simp [tz, Lib.ctz, h0]
  exact ⟨m, by rw [e]; exact hm⟩
theorem lz_lt {x : Nat} (h0 : x ≠ 0) (h : x < 18446744073709551616) : x < 2 ^ (64 - lz x) := by
  obtain ⟨h1, h2, h3⟩ := Lib.bitLenAux_bounds 64 x h h0
  have h4 : Lib.bitLen x ≤ 64 := Lib.bitLen_le x 64 (by omega) h
  refine Nat.lt_of_lt_of_le h3 (Nat.pow_le_pow_right (by decide) ?_)
  show Lib.bitLen x ≤ _
  unfold lz
  omega
theorem lz_le (x : Nat) : lz x ≤ 31 := Nat.min_le_right _ _
theorem lztz {x : Nat} (h0 : x ≠ 0) (h : x < 18446744073709551616) : lz x + tz x < 64 := by
  obtain ⟨m, hm⟩ := tz_dvd h0 h
  have h1 := lz_lt h0 h
  have h2 : 2 ^ tz x ≤ x := by
    conv => rhs; rw [hm]
    exact Nat.le_mul_of_pos_right _ (by omega)
  have h3 : 2 ^ tz x < 2 ^ (64 - lz x) := Nat.lt_of_le_of_lt h2 h1
  have h4 := (Nat.pow_lt_pow_iff_right (a := 2) (by decide)).1 h3
  omega
theorem held_size {lead size x : Nat} (h0 : x ≠ 0) (h : x < 18446744073709551616) (hw : held lead size x) (hl : lead + size ≤ 64) : 0 < size := by
  have := lztz h0 h
  unfold held at hw
  omega
theorem win_le {lead size x : Nat} (h : x < 18446744073709551616) (h1 : lead ≤ 31) (h2 : lead + size ≤ 64) : winL lead size x ≤ 31 ∧ winL lead size x + winS lead size x ≤ 64 := by
  unfold winL winS
  split
  · exact ⟨h1, h2⟩
  · rename_i h0
    split
    · exact ⟨h1, h2⟩
    · have := lztz h0 h
      have := lz_le x
      omega
theorem Good.zero : Good An.zero := ⟨by decide, by decide, by decide, by decide, by decide⟩
theorem Good.one (x : Sm) : Good (s1 x) := ⟨x.1.toNat_lt, by show 0 < _; omega, x.2.toNat_lt, by show 0 ≤ _; omega, by show 0 + 0 ≤ _; omega⟩
theorem Good.st {s : An} (h : Good s) (x : Sm) : Good (stS s x) := by
  have hx := xor_lt x.2.toNat_lt h.v
  have := win_le hx h.lead h.win
  exact ⟨x.1.toNat_lt, Nat.mod_lt _ (by decide), x.2.toNat_lt, this.1, this.2⟩
theorem Good.fold {s : An} (h : Good s) (l : List Sm) : Good (l.foldl stS s) := by
  induction l generalizing s with
  | nil => exact h
  | cons x t ih => exact ih (h.st x)
theorem Good.enc (l : List Sm) : Good (encS l) := by
  cases l with
  | nil => exact Good.zero
  | cons x t => exact (Good.one x).fold t
/-! back -/
def takeN (n : Nat) (r : List Bool) : Option (Nat × List Bool) := if n ≤ r.length then some (vb (r.take n), r.drop n) else none
def takeC (w b : Nat) (r : List Bool) : Option (Nat × List Bool) := (takeN w r).map fun p => ((p.1 + (18446744073709551616 - b)) % 18446744073709551616, p.2)
def takeChange : List Bool → Option (Nat × List Bool)
  | false :: r => some (0, r)
  | true :: false :: r => takeC 7 63 r
  | true :: true :: false :: r => takeC 9 255 r
  | true :: true :: true :: false :: r => takeC 12 2047 r
  | true :: true :: true :: true :: r => takeN 64 r
  | _ => none
def takeTime (s : An) (r : List Bool) : Option (An × List Bool) :=
  (takeChange r).map fun p => ({ s with d := (s.d + p.1) % 18446744073709551616, t := (s.t + (s.d + p.1) % 18446744073709551616) % 18446744073709551616 }, p.2)
def takeX (s : An) (r : List Bool) : Option (An × List Bool) :=
  if s.size = 0 then none else (takeN s.size r).map fun p => ({ s with v := s.v ^^^ (p.1 <<< (64 - s.lead - s.size)) }, p.2)
def takeWin (s : An) (r : List Bool) : Option (An × List Bool) :=
  (takeN 5 r).bind fun p => (takeN 6 p.2).bind fun q => if p.1 + (q.1 + 1) ≤ 64 then some ({ s with lead := p.1, size := q.1 + 1 }, q.2) else none
def takeValue (s : An) : List Bool → Option (An × List Bool)
  | [] => none
  | false :: r => some (s, r)
  | [true] => none
  | true :: false :: r => takeX s r
  | true :: true :: r => (takeWin s r).bind fun p => takeX p.1 p.2
def nextD (first : Bool) (s : An) (r : List Bool) : Option (An × List Bool) :=
  if first then (takeN 64 r).bind fun p => (takeN 64 p.2).map fun q => ({ s with t := p.1, v := q.1 }, q.2)
  else (takeTime s r).bind fun p => takeValue p.1 p.2
def decL : Nat → Bool → An → List Bool → List Sm
  | 0, _, _, _ => []
  | n + 1, f, s, r => match nextD f s r with
    | none => []
    | some p => (UInt64.ofNat p.1.t, UInt64.ofNat p.1.v) :: decL n false p.1 p.2
def decR : List UInt8 → List Sm
  | a :: b :: t => decL (a.toNat * 256 + b.toNat) true An.zero (ub t)
  | _ => []
theorem takeN_wb (n x : Nat) (r : List Bool) : takeN n (wb n x ++ r) = some (x % 2 ^ n, r) := by
  unfold takeN
  rw [if_pos (by rw [List.length_append, wb_length]; omega), List.take_left' (wb_length _ _), List.drop_left' (wb_length _ _), vb_wb]
theorem takeN_wb' {n x : Nat} (h : x < 2 ^ n) (r : List Bool) : takeN n (wb n x ++ r) = some (x, r) := by rw [takeN_wb, Nat.mod_eq_of_lt h]
theorem takeChange_time (c : Nat) (hc : c < 18446744073709551616) (r : List Bool) : takeChange (timeB c ++ r) = some (c, r) := by
  unfold timeB
  split
  · rename_i h; subst h; rfl
  · split
    · rename_i h
      show takeC 7 63 (wb 7 _ ++ r) = _
      unfold takeC
      rw [takeN_wb' (show _ < 2 ^ 7 from h), Option.map_some, show ((c + 63) % 18446744073709551616 + (18446744073709551616 - 63)) % 18446744073709551616 = c by omega]
    · split
      · rename_i h
        show takeC 9 255 (wb 9 _ ++ r) = _
        unfold takeC
        rw [takeN_wb' (show _ < 2 ^ 9 from h), Option.map_some, show ((c + 255) % 18446744073709551616 + (18446744073709551616 - 255)) % 18446744073709551616 = c by omega]
      · split
        · rename_i h
          show takeC 12 2047 (wb 12 _ ++ r) = _
          unfold takeC
          rw [takeN_wb' (show _ < 2 ^ 12 from h), Option.map_some, show ((c + 2047) % 18446744073709551616 + (18446744073709551616 - 2047)) % 18446744073709551616 = c by omega]
        · show takeN 64 (wb 64 _ ++ r) = _
          exact takeN_wb' hc r
theorem shift_back {x k : Nat} (h : ∃ m, x = 2 ^ k * m) : (x >>> k) <<< k = x := by
  obtain ⟨m, rfl⟩ := h
  rw [Nat.shiftRight_eq_div_pow, Nat.shiftLeft_eq, Nat.mul_div_cancel_left _ (Nat.pow_pos (by decide)), Nat.mul_comm]
theorem shift_lt {x k n : Nat} (h : x < 2 ^ (n + k)) : x >>> k < 2 ^ n := by
  rw [Nat.shiftRight_eq_div_pow, Nat.div_lt_iff_lt_mul (Nat.pow_pos (by decide)), ← Nat.pow_add]
  exact h
theorem xor_back (v u : Nat) : v ^^^ (u ^^^ v) = u := by rw [Nat.xor_comm u v, ← Nat.xor_assoc, Nat.xor_self, Nat.zero_xor]
theorem takeX_back (s : An) (x : Nat) (r : List Bool) (h0 : 0 < s.size) (hw : s.lead + s.size ≤ 64) (hx : x < 2 ^ (64 - s.lead)) (hm : ∃ m, x = 2 ^ (64 - s.lead - s.size) * m) : takeX s (wb s.size (x >>> (64 - s.lead - s.size)) ++ r) = some ({ s with v := s.v ^^^ x }, r) := by
  unfold takeX
  rw [if_neg (by omega), takeN_wb' (shift_lt (by rw [show s.size + (64 - s.lead - s.size) = 64 - s.lead by omega]; exact hx)), Option.map_some, shift_back hm]
theorem takeValue_back (s : An) (hs : Good s) (x : Nat) (hx : x < 18446744073709551616) (r : List Bool) : takeValue s (valueB s.lead s.size x ++ r) = some ({ s with v := s.v ^^^ x, lead := winL s.lead s.size x, size := winS s.lead s.size x }, r) := by
  unfold valueB winL winS
  split
  · rename_i h; subst h; simp [wb, takeValue]
  · rename_i h0
    obtain ⟨m, hm⟩ := tz_dvd h0 hx
    have hlz := lz_lt h0 hx
    split
    · rename_i hh
      have hz := held_size h0 hx hh hs.win
      unfold held at hh
      show takeX s (wb s.size _ ++ r) = _
      rw [takeX_back s x r hz hs.win (Nat.lt_of_lt_of_le hlz (Nat.pow_le_pow_right (by decide) (by omega))) ⟨2 ^ (tz x - (64 - s.lead - s.size)) * (2 * m + 1), by rw [← Nat.mul_assoc, ← Nat.pow_add, show 64 - s.lead - s.size + (tz x - (64 - s.lead - s.size)) = tz x by omega]; exact hm⟩]
    · have hl := lztz h0 hx
      have hle := lz_le x
      have e1 : wb 2 3 ++ wb 5 (lz x) ++ wb 6 (63 - lz x - tz x) ++ wb (64 - lz x - tz x) (x >>> tz x) ++ r = true :: true :: (wb 5 (lz x) ++ (wb 6 (63 - lz x - tz x) ++ (wb (64 - lz x - tz x) (x >>> tz x) ++ r))) := by
        rw [show wb 2 3 = [true, true] from rfl]
        simp
      rw [e1]
      show (takeWin s _).bind _ = _
      unfold takeWin
      rw [takeN_wb' (show lz x < 2 ^ 5 by omega), Option.bind_some]
      dsimp only
      rw [takeN_wb' (show 63 - lz x - tz x < 2 ^ 6 by omega), Option.bind_some]
      dsimp only
      rw [if_pos (by omega), Option.bind_some]
      dsimp only
      have e2 : 63 - lz x - tz x + 1 = 64 - lz x - tz x := by omega
      rw [e2]
      have e3 : 64 - lz x - (64 - lz x - tz x) = tz x := by omega
      have := takeX_back { s with lead := lz x, size := 64 - lz x - tz x } x r (by show 0 < 64 - lz x - tz x; omega) (by show lz x + (64 - lz x - tz x) ≤ 64; omega) hlz ⟨2 * m + 1, by show x = 2 ^ (64 - lz x - (64 - lz x - tz x)) * _; rw [e3]; exact hm⟩
      dsimp only at this
      rw [e3] at this
      exact this
theorem next_back (s : An) (hs : Good s) (x : Sm) (r : List Bool) : nextD false s (stB s x ++ r) = some (stS s x, r) := by
  have hx : x.1.toNat < 18446744073709551616 := x.1.toNat_lt
  have hd : dlt s x.1.toNat < 18446744073709551616 := Nat.mod_lt _ (by decide)
  have hc : chg s x.1.toNat < 18446744073709551616 := Nat.mod_lt _ (by decide)
  unfold nextD stB takeTime
  rw [if_neg (by decide), List.append_assoc, takeChange_time _ hc, Option.map_some, Option.bind_some]
  dsimp only
  have h1 := hs.t
  have h2 := hs.d
  have e1 : (s.d + chg s x.1.toNat) % 18446744073709551616 = dlt s x.1.toNat := by
    unfold chg
    omega
  have e2 : (s.t + dlt s x.1.toNat) % 18446744073709551616 = x.1.toNat := by
    unfold dlt
    omega
  rw [e1, e2]
  have hs' : Good { s with d := dlt s x.1.toNat, t := x.1.toNat } := ⟨hx, hd, hs.v, hs.lead, hs.win⟩
  have := takeValue_back _ hs' (x.2.toNat ^^^ s.v) (xor_lt x.2.toNat_lt hs.v) r
  dsimp only at this
  rw [this, xor_back]
  rfl
theorem decL_tail (l : List Sm) (s : An) (hs : Good s) (r : List Bool) : decL l.length false s (tailB s l ++ r) = l := by
  induction l generalizing s with
  | nil => rfl
  | cons x t ih =>
    rw [List.length_cons, decL, tailB, List.append_assoc, next_back s hs x]
    dsimp only
    rw [ih _ (hs.st x)]
    simp [stS]
theorem decL_enc (l : List Sm) (r : List Bool) : decL l.length true An.zero (encB l ++ r) = l := by
  cases l with
  | nil => rfl
  | cons x t =>
    rw [List.length_cons, decL, encB, List.append_assoc, List.append_assoc]
    unfold nextD
    rw [if_pos rfl, takeN_wb' (show _ < 2 ^ 64 from x.1.toNat_lt), Option.bind_some]
    dsimp only
    rw [takeN_wb' (show _ < 2 ^ 64 from x.2.toNat_lt), Option.map_some]
    dsimp only
    have e : ({ An.zero with t := x.1.toNat, v := x.2.toNat } : An) = s1 x := rfl
    rw [e, decL_tail t _ (Good.one x)]
    simp
/-- What is packed is unpacked. -/
theorem decR_enc (l : List Sm) (h : l.length < 65536) : decR (encR l) = l := by
  unfold encR decR
  dsimp only
  obtain ⟨z, hz⟩ := ub_pk (encB l)
  rw [hz]
  have e : (UInt8.ofNat (l.length / 256)).toNat * 256 + (UInt8.ofNat l.length).toNat = l.length := by
    rw [UInt8.toNat_ofNat', UInt8.toNat_ofNat']
    omega
  rw [e]
  exact decL_enc l _


end Go.Proofs.YtkmclgbiedbfpaaDoor
