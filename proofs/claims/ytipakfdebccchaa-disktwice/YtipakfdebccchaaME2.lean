/- The document's disk as lists: what it uses, its faults, its bounds. -/
import Derived.Test.YtipakfdebccchaaME1
import Derived.Test.YtipakfdebccchaaMS8
import Derived.Test.YtipakfdebccchaaMS5
import Derived.Test.YtipakfdebccchaaMWo
namespace Go.Proofs.Ytipakfdebccchaa
open Go.RowKit Go.Maps Go.Sort

/-- A sum over the files that a directory names. -/
def sumD (g : Int → Nat) (l : List (ByteArray × Int)) : Nat := (l.map fun e => g e.2).sum
theorem RA.used_sum (a : RA) : a.used = sumD a.lenAt a.dir := rfl
theorem unset_none {l : List (ByteArray × Int)} {name : ByteArray} (h : lookD l name.data.toList = none) : unsetL l name = l := by
  unfold unsetL
  rw [List.filter_eq_self]
  intro e he
  rw [nm_bne.2 (lookD_none h e he)]
  rfl
theorem sumD_append (g : Int → Nat) (l m : List (ByteArray × Int)) : sumD g (l ++ m) = sumD g l + sumD g m := by simp [sumD]
theorem sumD_unset (g : Int → Nat) {l : List (ByteArray × Int)} (hp : l.Pairwise fun a b => a.1.data.toList ≠ b.1.data.toList) {name : ByteArray} {f : Int} (h : lookD l name.data.toList = some f) : sumD g (unsetL l name) + g f = sumD g l := by
  induction l with
  | nil => cases h
  | cons e r ih =>
    rw [List.pairwise_cons] at hp
    simp only [lookD] at h
    by_cases h1 : e.1.data.toList = name.data.toList
    · rw [if_pos h1] at h
      have h2 : lookD r name.data.toList = none := by
        cases h3 : lookD r name.data.toList with
        | none => rfl
        | some f' =>
          obtain ⟨e', h4, h5, _⟩ := lookD_mem h3
          exact absurd (h1.trans h5.symm) (hp.1 e' h4)
      have h3 := unset_none h2
      have h4 : unsetL (e :: r) name = unsetL r name := by
        unfold unsetL
        rw [List.filter_cons, nm_beq.2 h1]
        rfl
      rw [h4, h3]
      have h5 : e.2 = f := by simpa using h
      simp [sumD, h5]
      omega
    · rw [if_neg h1] at h
      have h4 : unsetL (e :: r) name = e :: unsetL r name := by
        unfold unsetL
        rw [List.filter_cons, nm_bne.2 h1]
        rfl
      have h5 := ih hp.2 h
      rw [h4]
      simp only [sumD, List.map_cons, List.sum_cons] at *
      omega
theorem sumD_set (g : Int → Nat) (l : List (ByteArray × Int)) (name : ByteArray) (f : Int) : sumD g (setL l name f) = sumD g (unsetL l name) + g f := by
  unfold setL
  rw [sumD_append]
  simp [sumD]
theorem sumD_congr {g g' : Int → Nat} {l : List (ByteArray × Int)} (h : ∀ e, e ∈ l → g e.2 = g' e.2) : sumD g l = sumD g' l := by
  unfold sumD
  rw [List.map_congr_left h]
theorem sumD_bump {g g' : Int → Nat} {l : List (ByteArray × Int)} (hp : l.Pairwise fun a b => a.2 ≠ b.2) {f : Int} {k : Nat} (hf : ∃ e, e ∈ l ∧ e.2 = f) (h1 : g' f = g f + k) (h2 : ∀ e, e ∈ l → e.2 ≠ f → g' e.2 = g e.2) : sumD g' l = sumD g l + k := by
  induction l with
  | nil => obtain ⟨e, he, _⟩ := hf; cases he
  | cons a r ih =>
    rw [List.pairwise_cons] at hp
    obtain ⟨e, he, hef⟩ := hf
    simp only [sumD, List.map_cons, List.sum_cons] at *
    by_cases h3 : a.2 = f
    · have h4 : (r.map fun e => g' e.2) = r.map fun e => g e.2 := List.map_congr_left (fun b hb => h2 b (by simp [hb]) (fun e' => hp.1 b hb (h3.trans e'.symm)))
      rw [h4, h3, h1]
      omega
    · rcases List.mem_cons.1 he with rfl | he
      · exact absurd hef h3
      · have h5 := ih hp.2 ⟨e, he, hef⟩ (fun b hb => h2 b (by simp [hb]))
        rw [h5, h2 a (by simp) h3]
        omega
theorem sumD_le {g : Int → Nat} {l : List (ByteArray × Int)} {B : Nat} (h : ∀ e, e ∈ l → g e.2 ≤ B) : sumD g l ≤ l.length * B := by
  induction l with
  | nil => simp [sumD]
  | cons a r ih =>
    have h1 := ih (fun e he => h e (by simp [he]))
    have h2 := h a (by simp)
    simp only [sumD, List.map_cons, List.sum_cons, List.length_cons, Nat.succ_mul] at *
    omega

/-- The kind of the fault that strikes operation t. -/
def kindAt : List (Int × Int) → Int → Int → Option Int
  | [], _, _ => none
  | x :: r, ops, t => if ops + x.1 = t then some x.2 else kindAt r ops t
theorem kindAt_left {q : List (Int × Int)} (hq : ∀ x, x ∈ q → 0 ≤ x.1) (ops t : Int) : kindAt (qLeft q) (ops + 1) t = if t = ops then none else kindAt q ops t := by
  induction q with
  | nil => simp [qLeft, kindAt]
  | cons x r ih =>
    have ih := ih (fun y hy => hq y (by simp [hy]))
    have h0 := hq x (by simp)
    unfold qLeft at *
    by_cases h1 : 0 < x.1
    · rw [List.filterMap_cons_some (b := (x.1 - 1, x.2)) (by simp [h1])]
      simp only [kindAt]
      rw [ih]
      by_cases h2 : t = ops
      · rw [if_pos h2, if_pos h2, if_neg (by omega)]
      · rw [if_neg h2, if_neg h2]
        by_cases h3 : ops + x.1 = t
        · rw [if_pos (by omega), if_pos h3]
        · rw [if_neg (by omega), if_neg h3]
    · rw [List.filterMap_cons_none (by simp [h1])]
      rw [ih]
      simp only [kindAt]
      by_cases h2 : t = ops
      · rw [if_pos h2, if_pos h2]
      · rw [if_neg h2, if_neg h2, if_neg (by omega)]
def struckOf (o : Option Int) : Int := match o with | none => 0 | some k => if k = 2 then 2 else 1
theorem struck_at {q : List (Int × Int)} (hq : ∀ x, x ∈ q → 0 ≤ x.1) (ops : Int) : qStruck q = struckOf (kindAt q ops ops) := by
  have key : ∀ (q : List (Int × Int)) (st : Int), (∀ x, x ∈ q → 0 ≤ x.1) → q.foldl qStep st = if st = 0 then struckOf (kindAt q ops ops) else st := by
    intro q
    induction q with
    | nil =>
      intro st _
      by_cases h : st = 0
      · rw [if_pos h, h]; rfl
      · rw [if_neg h]; rfl
    | cons x r ih =>
      intro st hq
      have h0 := hq x (by simp)
      have e : qStep st x = if 0 < x.1 then st else if st = 0 then (if x.2 = 2 then 2 else 1) else st := rfl
      rw [List.foldl_cons, ih _ (fun y hy => hq y (by simp [hy]))]
      by_cases h1 : 0 < x.1
      · rw [if_pos h1] at e
        rw [e]
        simp only [kindAt]
        rw [if_neg (show ¬ ops + x.1 = ops by omega)]
      · rw [if_neg h1] at e
        simp only [kindAt]
        rw [if_pos (show ops + x.1 = ops by omega)]
        by_cases h2 : st = 0
        · rw [if_pos h2] at e
          rw [e, if_pos h2]
          simp only [struckOf]
          by_cases h3 : x.2 = 2
          · rw [if_pos h3]; rfl
          · rw [if_neg h3]; rfl
        · rw [if_neg h2] at e
          rw [e, if_neg h2, if_neg h2]
  have := key q 0 hq
  rw [if_pos rfl] at this
  exact this
theorem kindAt_snoc (q : List (Int × Int)) (x : Int × Int) (ops t : Int) : kindAt (q ++ [x]) ops t = (kindAt q ops t).or (if ops + x.1 = t then some x.2 else none) := by
  induction q with
  | nil => simp [kindAt]
  | cons y r ih =>
    simp only [List.cons_append, kindAt]
    split
    · rfl
    · exact ih

/-- The program's map of faults says the document's list. -/
structure FaultIs (F : DataW Unit) (ops : Int) (q : List (Int × Int)) : Prop where
  map : IsMap F
  at_ : ∀ t, t ≤ 9223372036854775807 → F.atKey (.int .i64 t) (.lit (.int .i64 0)) = .lit (.int .i64 ((kindAt q ops t).getD 0))
  has : ∀ t, t ≤ 9223372036854775807 → Maps.has F (.int .i64 t) = (kindAt q ops t).isSome
theorem int_ne {x y : Int} (h : x ≠ y) : Lit.int .i64 x ≠ Lit.int .i64 y := fun e => h (by simpa using e)
theorem int_key (x : Int) : WideAt.IsKeyLit (Lit.int .i64 x) := trivial
theorem FaultIs.begun {F : DataW Unit} {ops : Int} {q : List (Int × Int)} (h : FaultIs F ops q) (hq : ∀ x, x ∈ q → 0 ≤ x.1) : FaultIs (F.del (.int .i64 ops)) (ops + 1) (qLeft q) := by
  refine ⟨h.map.del _, fun t ht => ?_, fun t ht => ?_⟩
  · rw [kindAt_left hq]
    by_cases e : t = ops
    · subst e
      rw [if_pos rfl, atKey_del_same]
      rfl
    · rw [if_neg e, atKey_del_other (int_ne e)]
      exact h.at_ t ht
  · rw [kindAt_left hq]
    by_cases e : t = ops
    · subst e
      rw [if_pos rfl, has_del_same]
      rfl
    · rw [if_neg e, has_del_other (int_ne e)]
      exact h.has t ht
theorem FaultIs.far {F : DataW Unit} {ops : Int} {q : List (Int × Int)} (h : FaultIs F ops q) {x : Int × Int} (hx : 9223372036854775807 < ops + x.1) : FaultIs F ops (q ++ [x]) := by
  refine ⟨h.map, fun t ht => ?_, fun t ht => ?_⟩
  · rw [kindAt_snoc, if_neg (by omega), Option.or_none]
    exact h.at_ t ht
  · rw [kindAt_snoc, if_neg (by omega), Option.or_none]
    exact h.has t ht
theorem FaultIs.had {F : DataW Unit} {ops : Int} {q : List (Int × Int)} (h : FaultIs F ops q) {x : Int × Int} (hle : ops + x.1 ≤ 9223372036854775807) (hx : Maps.has F (.int .i64 (ops + x.1)) = true) : FaultIs F ops (q ++ [x]) := by
  have key : ∀ t, kindAt (q ++ [x]) ops t = kindAt q ops t := fun t => by
    rw [kindAt_snoc]
    by_cases e : ops + x.1 = t
    · subst e
      rw [h.has _ hle] at hx
      obtain ⟨k, hk⟩ := Option.isSome_iff_exists.1 hx
      rw [hk]
      rfl
    · rw [if_neg e, Option.or_none]
  exact ⟨h.map, fun t ht => by rw [key]; exact h.at_ t ht, fun t ht => by rw [key]; exact h.has t ht⟩
theorem FaultIs.new {F : DataW Unit} {ops : Int} {q : List (Int × Int)} (h : FaultIs F ops q) {x : Int × Int} (hle : ops + x.1 ≤ 9223372036854775807) (hx : Maps.has F (.int .i64 (ops + x.1)) = false) : FaultIs (F.put (.int .i64 (ops + x.1)) (.lit (.int .i64 x.2))) ops (q ++ [x]) := by
  have hn : kindAt q ops (ops + x.1) = none := by
    rw [h.has _ hle] at hx
    simpa using hx
  refine ⟨h.map.put _ _, fun t ht => ?_, fun t ht => ?_⟩
  · rw [kindAt_snoc]
    by_cases e : ops + x.1 = t
    · subst e
      rw [hn, if_pos rfl, atKey_put_same h.map (int_key _)]
      rfl
    · rw [if_neg e, Option.or_none, atKey_put_other (int_ne (fun e' => e e'.symm))]
      exact h.at_ t ht
  · rw [kindAt_snoc]
    by_cases e : ops + x.1 = t
    · subst e
      rw [hn, if_pos rfl, has_put_same h.map (int_key _)]
      rfl
    · rw [if_neg e, Option.or_none, has_put_other (int_ne (fun e' => e e'.symm))]
      exact h.has t ht

/-- What refuses the next operation is the same for both. -/
theorem err_same {s : St} {a : RA} (hF : FaultIs s.F a.cnt a.faults) (hq : ∀ x, x ∈ a.faults → 0 ≤ x.1) (ho : s.ops = a.cnt) (hc : a.cnt ≤ 9223372036854775807) (hs : s.stop = a.stop) : s.err = a.err ∧ s.torn = decide (a.hit = 2) := by
  unfold St.err St.torn RA.err RA.hit
  rw [struck_at hq a.cnt, ho, hs, hF.at_ _ hc, hF.has _ hc]
  simp only [bErr, bTorn, rErr, rHit]
  cases kindAt a.faults a.cnt a.cnt with
  | none =>
    by_cases h0 : a.stop = 0
    · simp [h0]
    · simp [h0, struckOf]
  | some k =>
    by_cases h0 : a.stop = 0
    · simp [h0]
    · by_cases h2 : k = 2
      · simp [h0, struckOf, h2]
      · simp [h0, struckOf, h2]
theorem hit_range (a : RA) : (a.err = 0 ∧ a.hit = 0) ∨ (a.err = 6 ∧ a.hit = 1) ∨ (a.err = 6 ∧ a.hit = 2) ∨ a.err = 7 := by
  unfold RA.err RA.hit rErr rHit
  have := qStruck_range a.faults
  by_cases h : a.stop = 0
  · simp [h]
  · rcases this with e | e | e <;> simp [h, e]

/-- Bounds of the document's disk behind k calls, c of them operations; its directories. -/
structure Inv (k c : Nat) (a : RA) : Prop where
  cap0 : 0 ≤ a.cap
  cap1 : a.cap ≤ 9223372036854775807
  st0 : -1 ≤ a.stop
  st1 : a.stop ≤ 9223372036854775807
  c0 : 0 ≤ a.cnt
  c1 : a.cnt ≤ c
  nf : a.files.length ≤ k
  np : a.pend.length ≤ k
  nq : a.faults.length ≤ k
  fq : ∀ x, x ∈ a.faults → 0 ≤ x.1 ∧ x.1 ≤ 9223372036854775807
  len : ∀ x, x ∈ a.files → x.1.length ≤ 200 * k ∧ 0 ≤ x.2 ∧ x.2 ≤ x.1.length
  okp : ∀ p, p ∈ a.pend → OkP a.files.length p
  dir : a.dir = foldL a.kept a.pend
  tidy : ∀ j, j ≤ a.pend.length → TidyD a.files.length (foldL a.kept (a.pend.take j))

section
variable {k c : Nat} {a : RA} (h : Inv k c a)
include h
theorem Inv.mono {k' c' : Nat} (hk : k ≤ k') (hc : c ≤ c') : Inv k' c' a :=
  ⟨h.cap0, h.cap1, h.st0, h.st1, h.c0, by have := h.c1; omega, by have := h.nf; omega, by have := h.np; omega, by have := h.nq; omega, h.fq, fun x hx => by have := h.len x hx; omega, h.okp, h.dir, h.tidy⟩
theorem Inv.tidyD : TidyD a.files.length a.dir := by
  have := h.tidy a.pend.length (Nat.le_refl _)
  rw [List.take_length, ← h.dir] at this
  exact this
theorem Inv.tidyK : TidyD a.files.length a.kept := by
  have := h.tidy 0 (Nat.zero_le _)
  exact this
theorem Inv.whole : a.whole := h.tidyD.lt
theorem Inv.lenAt (i : Int) : a.lenAt i ≤ 200 * k := by
  unfold RA.lenAt
  cases e : a.files[i.toNat]? with
  | none => simp
  | some x => simpa using (h.len x (List.mem_of_getElem? e)).1
theorem Inv.used_le : a.used ≤ k * (200 * k) := by
  rw [RA.used_sum]
  refine Nat.le_trans (sumD_le (B := 200 * k) (fun e _ => h.lenAt e.2)) (Nat.mul_le_mul_right _ (Nat.le_trans h.tidyD.len h.nf))
theorem Inv.begun : Inv k (c + 1) a.begun := by
  refine ⟨h.cap0, h.cap1, ?_, ?_, ?_, ?_, h.nf, h.np, Nat.le_trans (qLeft_length _) h.nq, ?_, h.len, h.okp, h.dir, h.tidy⟩
  · show -1 ≤ rStop a.stop
    have := h.st0
    unfold rStop
    split <;> omega
  · show rStop a.stop ≤ _
    have := h.st1
    unfold rStop
    split <;> omega
  · show 0 ≤ a.cnt + 1
    have := h.c0
    omega
  · show a.cnt + 1 ≤ ((c + 1 : Nat) : Int)
    have := h.c1
    omega
  · intro x hx
    have hx' : x ∈ qLeft a.faults := hx
    unfold qLeft at hx'
    rw [List.mem_filterMap] at hx'
    obtain ⟨y, hy, e⟩ := hx'
    split at e
    · have := h.fq y hy
      cases e
      show 0 ≤ y.1 - 1 ∧ y.1 - 1 ≤ _
      omega
    · cases e

/-- One more change pends. -/
theorem Inv.pended {files' : List (List UInt8 × Int)} {p : Int × ByteArray × ByteArray × Int} (hf : a.files.length ≤ files'.length) (hl : files'.length ≤ k + 1) (hlen : ∀ x, x ∈ files' → x.1.length ≤ 200 * (k + 1) ∧ 0 ≤ x.2 ∧ x.2 ≤ x.1.length) (hp : OkP files'.length p) (ht : TidyD files'.length (chL a.dir p)) :
    Inv (k + 1) c { a with files := files', dir := chL a.dir p, pend := a.pend ++ [p] } := by
  have hfold : foldL a.kept (a.pend ++ [p]) = chL a.dir p := by
    rw [h.dir]
    unfold foldL
    rw [List.foldl_append]
    rfl
  refine ⟨h.cap0, h.cap1, h.st0, h.st1, h.c0, h.c1, hl, ?_, ?_, h.fq, hlen, ?_, hfold.symm, ?_⟩
  · show (a.pend ++ [p]).length ≤ k + 1
    have := h.np
    rw [List.length_append]
    simpa using this
  · have := h.nq
    show a.faults.length ≤ k + 1
    omega
  · intro q hq
    rcases List.mem_append.1 hq with hq | hq
    · exact (h.okp q hq).mono hf
    · rw [List.mem_singleton] at hq
      subst hq
      exact hp
  · intro j hj
    by_cases e : j ≤ a.pend.length
    · show TidyD files'.length (foldL a.kept ((a.pend ++ [p]).take j))
      rw [List.take_append_of_le_length e]
      exact (h.tidy j e).mono hf
    · have hj' : j ≤ (a.pend ++ [p]).length := hj
      show TidyD files'.length (foldL a.kept ((a.pend ++ [p]).take j))
      rw [List.take_of_length_le (by rw [List.length_append, List.length_singleton] at *; omega), hfold]
      exact ht

theorem Inv.create {name : ByteArray} (hr : rn name = true) : Inv (k + 1) c (a.create name) := by
  have hn := h.nf
  have e : a.create name = { a with files := a.files ++ [([], 0)], dir := chL a.dir (1, ByteArray.empty, name, (a.files.length : Int)), pend := a.pend ++ [(1, ByteArray.empty, name, (a.files.length : Int))] } := rfl
  rw [e]
  refine h.pended (by simp) (by simp; omega) (fun x hx => ?_) ⟨Or.inl rfl, hr, fun e => (by simp at e), fun _ => ⟨a.files.length, rfl, by simp⟩⟩ ?_
  · rcases List.mem_append.1 hx with hx | hx
    · have := h.len x hx
      omega
    · rw [List.mem_singleton] at hx
      subst hx
      simp
  · show TidyD _ (setL a.dir name (a.files.length : Int))
    refine (h.tidyD.mono (by simp)).set hr (by simp) (fun e he => ?_)
    obtain ⟨m, h1, h2⟩ := h.tidyD.lt e (mem_unset he).1
    omega
theorem Inv.remove {name : ByteArray} (hr : rn name = true) : Inv (k + 1) c (a.remove name) := by
  have hn := h.nf
  have e : a.remove name = { a with files := a.files, dir := chL a.dir (3, ByteArray.empty, name, 0), pend := a.pend ++ [(3, ByteArray.empty, name, 0)] } := rfl
  rw [e]
  refine h.pended (Nat.le_refl _) (by omega) (fun x hx => by have := h.len x hx; omega) ⟨Or.inr (Or.inr rfl), hr, fun e => (by simp at e), fun e => absurd rfl e⟩ ?_
  exact h.tidyD.unset name
theorem Inv.rename {old name : ByteArray} (h1 : rn old = true) (h2 : rn name = true) {f : Int} (hf : lookD a.dir old.data.toList = some f) : Inv (k + 1) c (a.rename old name f) := by
  have hn := h.nf
  have e : a.rename old name f = { a with files := a.files, dir := chL a.dir (2, old, name, f), pend := a.pend ++ [(2, old, name, f)] } := rfl
  obtain ⟨e', he', hn', rfl⟩ := lookD_mem hf
  obtain ⟨m, hm1, hm2⟩ := h.tidyD.lt e' he'
  rw [e]
  refine h.pended (Nat.le_refl _) (by omega) (fun x hx => by have := h.len x hx; omega) ⟨Or.inr (Or.inl rfl), h2, fun _ => h1, fun _ => ⟨m, hm1, hm2⟩⟩ ?_
  show TidyD _ (setL (unsetL a.dir old) name e'.2)
  rw [hm1]
  refine (h.tidyD.unset old).set h2 hm2 (fun x hx hxe => ?_)
  have hx1 := (mem_unset hx).1
  obtain ⟨hx2, hx3⟩ := mem_unset hx1
  have := pair_inj h.tidyD.files x hx2 e' he' (hxe.trans hm1.symm)
  subst this
  exact hx3 hn'
theorem Inv.syncDir : Inv k c a.syncDir := by
  refine ⟨h.cap0, h.cap1, h.st0, h.st1, h.c0, h.c1, h.nf, Nat.zero_le _, h.nq, h.fq, h.len, fun p hp => (by cases hp), rfl, fun j hj => ?_⟩
  have e : (a.syncDir).pend.take j = [] := by simp [RA.syncDir]
  rw [e]
  exact h.tidyD
theorem Inv.files {m : Nat} {x : List UInt8 × Int} (hx : x.1.length ≤ 200 * (k + 1) ∧ 0 ≤ x.2 ∧ x.2 ≤ x.1.length) : Inv (k + 1) c { a with files := a.files.set m x } := by
  have h' := h.mono (Nat.le_succ k) (Nat.le_refl c)
  have e : (a.files.set m x).length = a.files.length := List.length_set
  refine ⟨h'.cap0, h'.cap1, h'.st0, h'.st1, h'.c0, h'.c1, ?_, h'.np, h'.nq, h'.fq, fun y hy => ?_, ?_, h'.dir, ?_⟩
  · show (a.files.set m x).length ≤ k + 1
    rw [e]
    exact h'.nf
  · rcases List.mem_or_eq_of_mem_set hy with hy | rfl
    · exact h'.len y hy
    · exact hx
  · show ∀ p, p ∈ a.pend → OkP (a.files.set m x).length p
    rw [e]
    exact h'.okp
  · show ∀ j, j ≤ a.pend.length → TidyD (a.files.set m x).length _
    rw [e]
    exact h'.tidy
end

end Go.Proofs.Ytipakfdebccchaa
