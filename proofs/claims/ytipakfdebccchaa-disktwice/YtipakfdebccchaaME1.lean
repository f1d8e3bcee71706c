/- Directories as lists: what a name names; changes; the program's map of names against the document's list. -/
import Derived.Test.YtipakfdebccchaaMWm
import Derived.Test.YtipakfdebccchaaMR4
namespace Go.Proofs.Ytipakfdebccchaa
open Go.RowKit Go.Maps Go.Sort

/-- The file that a name names. -/
def lookD : List (ByteArray × Int) → List UInt8 → Option Int
  | [], _ => none
  | e :: r, x => if e.1.data.toList = x then some e.2 else lookD r x

theorem nm_beq {a b : ByteArray} : (a.toList == b.toList) = true ↔ a.data.toList = b.data.toList := by
  rw [ByteArray.toList_eq, ByteArray.toList_eq]
  exact beq_iff_eq
theorem nm_bne {a b : ByteArray} : (a.toList == b.toList) = false ↔ a.data.toList ≠ b.data.toList := by
  rw [ByteArray.toList_eq, ByteArray.toList_eq]
  exact beq_eq_false_iff_ne

theorem lookD_append (l m : List (ByteArray × Int)) (x : List UInt8) : lookD (l ++ m) x = (lookD l x).or (lookD m x) := by
  induction l with
  | nil => rfl
  | cons e r ih =>
    simp only [List.cons_append, lookD]
    split
    · rfl
    · exact ih

theorem lookD_unset (l : List (ByteArray × Int)) (name : ByteArray) (x : List UInt8) : lookD (unsetL l name) x = if x = name.data.toList then none else lookD l x := by
  induction l with
  | nil => simp [unsetL, lookD]
  | cons e r ih =>
    unfold unsetL at *
    by_cases h : e.1.data.toList = name.data.toList
    · have hb : (!(e.1.toList == name.toList)) = false := by rw [nm_beq.2 h]; rfl
      rw [List.filter_cons, hb]
      simp only [Bool.false_eq_true, if_false, lookD]
      rw [ih]
      by_cases h2 : x = name.data.toList
      · rw [if_pos h2, if_pos h2]
      · rw [if_neg h2, if_neg h2, if_neg (fun e' => h2 (e'.symm.trans h))]
    · have hb : (!(e.1.toList == name.toList)) = true := by rw [nm_bne.2 h]; rfl
      rw [List.filter_cons, hb]
      simp only [if_true, lookD]
      by_cases h3 : e.1.data.toList = x
      · rw [if_pos h3, if_pos h3, if_neg (fun e' => h (h3.trans e'))]
      · rw [if_neg h3, if_neg h3]
        exact ih

theorem lookD_set (l : List (ByteArray × Int)) (name : ByteArray) (f : Int) (x : List UInt8) : lookD (setL l name f) x = if x = name.data.toList then some f else lookD l x := by
  unfold setL
  rw [lookD_append, lookD_unset]
  by_cases h : x = name.data.toList
  · rw [if_pos h, if_pos h]
    simp [lookD, h]
  · rw [if_neg h, if_neg h]
    have e : lookD [(name, f)] x = none := by simp [lookD]; exact fun e => h e.symm
    rw [e]
    simp

theorem lookD_mem {l : List (ByteArray × Int)} {x : List UInt8} {f : Int} (h : lookD l x = some f) : ∃ e, e ∈ l ∧ e.1.data.toList = x ∧ e.2 = f := by
  induction l with
  | nil => cases h
  | cons e r ih =>
    simp only [lookD] at h
    split at h
    · rename_i h1
      exact ⟨e, by simp, h1, by simpa using h⟩
    · obtain ⟨e', h1, h2⟩ := ih h
      exact ⟨e', by simp [h1], h2⟩

theorem lookD_none {l : List (ByteArray × Int)} {x : List UInt8} (h : lookD l x = none) : ∀ e, e ∈ l → e.1.data.toList ≠ x := by
  induction l with
  | nil => intro e he; cases he
  | cons e r ih =>
    simp only [lookD] at h
    split at h
    · cases h
    · rename_i h1
      intro e' he'
      rcases List.mem_cons.1 he' with rfl | he'
      · exact h1
      · exact ih h e' he'

theorem mem_lookD {l : List (ByteArray × Int)} (hp : l.Pairwise fun a b => a.1.data.toList ≠ b.1.data.toList) {e : ByteArray × Int} (he : e ∈ l) : lookD l e.1.data.toList = some e.2 := by
  induction l with
  | nil => cases he
  | cons a r ih =>
    simp only [lookD]
    rw [List.pairwise_cons] at hp
    rcases List.mem_cons.1 he with rfl | he
    · rw [if_pos rfl]
    · rw [if_neg (hp.1 e he)]
      exact ih hp.2 he

theorem look_neg {l : List (ByteArray × Int)} {name : ByteArray} (h : lookD l name.data.toList = none) : ∀ i, Stands l name i → i < 0 := by
  intro i hi
  rcases hi with ⟨k, hk, rfl, h1, _⟩ | ⟨rfl, _⟩
  · have := lookD_none h l[k] (List.getElem_mem hk)
    exact absurd (nm_beq.1 h1) this
  · omega

theorem look_at {l : List (ByteArray × Int)} {name : ByteArray} {f : Int} (h : lookD l name.data.toList = some f) : ∃ k, ∃ hk : k < l.length, l[k].2 = f ∧ ∀ i, Stands l name i → i = k := by
  induction l with
  | nil => cases h
  | cons e r ih =>
    simp only [lookD] at h
    by_cases h1 : e.1.data.toList = name.data.toList
    · rw [if_pos h1] at h
      refine ⟨0, by simp, by simpa using h, fun i hi => ?_⟩
      rcases hi with ⟨k, hk, rfl, _, h3⟩ | ⟨rfl, h3⟩
      · cases k with
        | zero => rfl
        | succ k =>
          exact absurd h1 (nm_bne.1 (h3 0 (by omega)))
      · exact absurd h1 (nm_bne.1 (h3 0 (by simp)))
    · rw [if_neg h1] at h
      obtain ⟨k, hk, h2, h3⟩ := ih h
      refine ⟨k + 1, by simpa using hk, by simpa using h2, fun i hi => ?_⟩
      rcases hi with ⟨j, hj, rfl, h4, h5⟩ | ⟨rfl, h5⟩
      · cases j with
        | zero => exact absurd (nm_beq.1 h4) h1
        | succ j =>
          have h6 : Stands r name j := Or.inl ⟨j, by simpa using hj, rfl, by simpa using h4, fun j' hj' => by have := h5 (j' + 1) (by omega); simpa using this⟩
          have := h3 _ h6
          omega
      · have h6 : Stands r name (-1) := Or.inr ⟨rfl, fun j' hj' => by have := h5 (j' + 1) (by simpa using hj'); simpa using this⟩
        have := h3 _ h6
        omega

theorem pair_inj {α β : Type} {f : α → β} {l : List α} (h : l.Pairwise fun a b => f a ≠ f b) : ∀ a, a ∈ l → ∀ b, b ∈ l → f a = f b → a = b := by
  induction l with
  | nil => intro a ha; cases ha
  | cons x r ih =>
    rw [List.pairwise_cons] at h
    intro a ha b hb e
    rcases List.mem_cons.1 ha with ha' | ha'
    · rcases List.mem_cons.1 hb with hb' | hb'
      · exact ha'.trans hb'.symm
      · rw [ha'] at e
        exact absurd e (h.1 b hb')
    · rcases List.mem_cons.1 hb with hb' | hb'
      · rw [hb'] at e
        exact absurd e.symm (h.1 a ha')
      · exact ih h.2 a ha' b hb' e

theorem nodup_lt : ∀ (n : Nat) (l : List Nat), l.Nodup → (∀ x, x ∈ l → x < n) → l.length ≤ n
  | 0, l, _, h => by
    cases l with
    | nil => simp
    | cons a r => have := h a (by simp); omega
  | n + 1, l, hd, h => by
    by_cases hm : n ∈ l
    · have h1 := nodup_lt n (l.erase n) (hd.erase n) (fun x hx => by
        have h2 := (hd.mem_erase_iff).1 hx
        have := h x h2.2
        omega)
      rw [List.length_erase_of_mem hm] at h1
      omega
    · have := nodup_lt n l hd (fun x hx => by
        have := h x hx
        have : x ≠ n := fun e => hm (e ▸ hx)
        omega)
      omega

/-- A directory of n files: right names, each once, and no file twice. -/
structure TidyD (n : Nat) (l : List (ByteArray × Int)) : Prop where
  names : l.Pairwise fun a b => a.1.data.toList ≠ b.1.data.toList
  right : ∀ e, e ∈ l → rn e.1 = true
  files : l.Pairwise fun a b => a.2 ≠ b.2
  lt : ∀ e, e ∈ l → ∃ m : Nat, e.2 = m ∧ m < n

theorem TidyD.nil (n : Nat) : TidyD n [] := ⟨List.Pairwise.nil, fun e he => (by cases he), List.Pairwise.nil, fun e he => (by cases he)⟩
theorem TidyD.mono {n n' : Nat} {l : List (ByteArray × Int)} (h : TidyD n l) (hn : n ≤ n') : TidyD n' l := ⟨h.names, h.right, h.files, fun e he => by obtain ⟨m, h1, h2⟩ := h.lt e he; exact ⟨m, h1, by omega⟩⟩
theorem mem_unset {l : List (ByteArray × Int)} {name : ByteArray} {e : ByteArray × Int} (h : e ∈ unsetL l name) : e ∈ l ∧ e.1.data.toList ≠ name.data.toList := by
  unfold unsetL at h
  rw [List.mem_filter] at h
  exact ⟨h.1, nm_bne.1 (by simpa using h.2)⟩
theorem TidyD.unset {n : Nat} {l : List (ByteArray × Int)} (h : TidyD n l) (name : ByteArray) : TidyD n (unsetL l name) :=
  ⟨h.names.filter _, fun e he => h.right e (mem_unset he).1, h.files.filter _, fun e he => h.lt e (mem_unset he).1⟩
theorem TidyD.set {n : Nat} {l : List (ByteArray × Int)} (h : TidyD n l) {name : ByteArray} (hr : rn name = true) {m : Nat} (hm : m < n) (hf : ∀ e, e ∈ unsetL l name → e.2 ≠ m) : TidyD n (setL l name m) := by
  have hu := h.unset name
  unfold setL
  refine ⟨?_, ?_, ?_, ?_⟩
  · rw [List.pairwise_append]
    refine ⟨hu.names, List.pairwise_singleton _ _, fun a ha b hb => ?_⟩
    rw [List.mem_singleton] at hb
    subst hb
    exact (mem_unset ha).2
  · intro e he
    rcases List.mem_append.1 he with he | he
    · exact hu.right e he
    · rw [List.mem_singleton] at he
      subst he
      exact hr
  · rw [List.pairwise_append]
    refine ⟨hu.files, List.pairwise_singleton _ _, fun a ha b hb => ?_⟩
    rw [List.mem_singleton] at hb
    subst hb
    exact hf a ha
  · intro e he
    rcases List.mem_append.1 he with he | he
    · exact hu.lt e he
    · rw [List.mem_singleton] at he
      subst he
      exact ⟨m, rfl, hm⟩
theorem TidyD.len {n : Nat} {l : List (ByteArray × Int)} (h : TidyD n l) : l.length ≤ n := by
  have h1 : (l.map fun e => e.2.toNat).Nodup := by
    rw [List.Nodup, List.pairwise_map]
    refine h.files.imp_of_mem (fun {a b} ha hb hne e => hne ?_)
    obtain ⟨m1, e1, _⟩ := h.lt a ha
    obtain ⟨m2, e2, _⟩ := h.lt b hb
    rw [e1, e2] at e ⊢
    simp at e
    omega
  have h2 := nodup_lt n _ h1 (fun x hx => by
    rw [List.mem_map] at hx
    obtain ⟨e, he, rfl⟩ := hx
    obtain ⟨m, e1, e2⟩ := h.lt e he
    rw [e1]
    simpa using e2)
  simpa using h2

/-- A pending change of the document's. -/
structure OkP (n : Nat) (p : Int × ByteArray × ByteArray × Int) : Prop where
  kind : p.1 = 1 ∨ p.1 = 2 ∨ p.1 = 3
  name : rn p.2.2.1 = true
  old : p.1 = 2 → rn p.2.1 = true
  file : p.1 ≠ 3 → ∃ m : Nat, p.2.2.2 = m ∧ m < n
theorem OkP.mono {n n' : Nat} {p : Int × ByteArray × ByteArray × Int} (h : OkP n p) (hn : n ≤ n') : OkP n' p := ⟨h.kind, h.name, h.old, fun h1 => by obtain ⟨m, e, h2⟩ := h.file h1; exact ⟨m, e, by omega⟩⟩

def chL (l : List (ByteArray × Int)) (p : Int × ByteArray × ByteArray × Int) : List (ByteArray × Int) := if p.1 = 1 then setL l p.2.2.1 p.2.2.2 else if p.1 = 2 then setL (unsetL l p.2.1) p.2.2.1 p.2.2.2 else unsetL l p.2.2.1
def foldL (l : List (ByteArray × Int)) (ps : List (Int × ByteArray × ByteArray × Int)) : List (ByteArray × Int) := ps.foldl chL l

/-- The program's pending change for it. -/
def pe (blk : List Nat) (p : Int × ByteArray × ByteArray × Int) : ByteArray × ByteArray × Option Addr :=
  if p.1 = 1 then (ByteArray.empty, p.2.2.1, some ⟨blk.getD p.2.2.2.toNat 0, 0, none⟩) else if p.1 = 2 then (p.2.1, p.2.2.1, some ⟨blk.getD p.2.2.2.toNat 0, 0, none⟩) else (p.2.2.1, ByteArray.empty, none)

theorem pe_ok {n : Nat} {p : Int × ByteArray × ByteArray × Int} (h : OkP n p) (blk : List Nat) : OkCh (pe blk p) := by
  have h1 := (rn_size h.name).2
  unfold pe
  split
  · exact ⟨by show 0 ≤ 1000000; omega, by show p.2.2.1.size ≤ 1000000; omega, rfl⟩
  · split
    · rename_i h2
      have h3 := (rn_size (h.old h2)).2
      exact ⟨by show p.2.1.size ≤ 1000000; omega, by show p.2.2.1.size ≤ 1000000; omega, rfl⟩
    · exact ⟨by show p.2.2.1.size ≤ 1000000; omega, by show 0 ≤ 1000000; omega, rfl⟩

/-- The program's map of names says the directory. -/
def nameV (blk : List Nat) (o : Option Int) : DataW Unit := match o with | none => .nil | some f => .lit (.int .i64 (blk.getD f.toNat 0 : Nat))
structure MapIs (blk : List Nat) (D : DataW Unit) (l : List (ByteArray × Int)) : Prop where
  map : IsMap D
  at_ : ∀ x, D.atKey (.string x) .nil = nameV blk (lookD l x)
  has : ∀ x, Maps.has D (.string x) = (lookD l x).isSome

theorem str_ne {x y : List UInt8} (h : x ≠ y) : Lit.string x ≠ Lit.string y := fun e => h (by simpa using e)
theorem str_key (x : List UInt8) : WideAt.IsKeyLit (Lit.string x) := trivial

theorem MapIs.put {blk : List Nat} {D : DataW Unit} {l : List (ByteArray × Int)} (h : MapIs blk D l) (name : ByteArray) (f : Int) : MapIs blk (D.put (.string name.data.toList) (nameV blk (some f))) (setL l name f) := by
  refine ⟨h.map.put _ _, fun x => ?_, fun x => ?_⟩
  · rw [lookD_set]
    by_cases e : x = name.data.toList
    · subst e
      rw [if_pos rfl, atKey_put_same h.map (str_key _)]
    · rw [if_neg e, atKey_put_other (str_ne e)]
      exact h.at_ x
  · rw [lookD_set]
    by_cases e : x = name.data.toList
    · subst e
      rw [if_pos rfl, has_put_same h.map (str_key _)]
      rfl
    · rw [if_neg e, has_put_other (str_ne e)]
      exact h.has x
theorem MapIs.del {blk : List Nat} {D : DataW Unit} {l : List (ByteArray × Int)} (h : MapIs blk D l) (name : ByteArray) : MapIs blk (D.del (.string name.data.toList)) (unsetL l name) := by
  refine ⟨h.map.del _, fun x => ?_, fun x => ?_⟩
  · rw [lookD_unset]
    by_cases e : x = name.data.toList
    · subst e
      rw [if_pos rfl, atKey_del_same]
      rfl
    · rw [if_neg e, atKey_del_other (str_ne e)]
      exact h.at_ x
  · rw [lookD_unset]
    by_cases e : x = name.data.toList
    · subst e
      rw [if_pos rfl, has_del_same]
      rfl
    · rw [if_neg e, has_del_other (str_ne e)]
      exact h.has x
theorem MapIs.step {blk : List Nat} {D : DataW Unit} {l : List (ByteArray × Int)} (h : MapIs blk D l) {n : Nat} {p : Int × ByteArray × ByteArray × Int} (hp : OkP n p) : MapIs blk (doD D (pe blk p).1 (pe blk p).2.1 (pdD (pe blk p).2.2)) (chL l p) := by
  unfold pe chL
  rcases hp.kind with e | e | e
  · rw [if_pos e, if_pos e]
    show MapIs blk (doD D ByteArray.empty p.2.2.1 _) _
    rw [doD_new hp.name]
    exact h.put _ _
  · rw [if_neg (by omega), if_pos e, if_neg (by omega), if_pos e]
    show MapIs blk (doD D p.2.1 p.2.2.1 _) _
    rw [doD_both (hp.old e) hp.name]
    exact (h.del _).put _ _
  · rw [if_neg (by omega), if_neg (by omega), if_neg (by omega), if_neg (by omega)]
    show MapIs blk (doD D p.2.2.1 ByteArray.empty .nil) _
    rw [doD_old hp.name]
    exact h.del _
theorem MapIs.fold {blk : List Nat} {n : Nat} : ∀ (ps : List (Int × ByteArray × ByteArray × Int)) {D : DataW Unit} {l : List (ByteArray × Int)}, MapIs blk D l → (∀ p, p ∈ ps → OkP n p) → MapIs blk (foldD D (ps.map (pe blk))) (foldL l ps)
  | [], _, _, h, _ => h
  | p :: r, D, l, h, hp => by
    have h1 := h.step (hp p (by simp))
    exact MapIs.fold r h1 (fun q hq => hp q (by simp [hq]))
theorem nameV_grow {blk : List Nat} {f : Int} (g : Nat) (hf : ∃ m : Nat, f = m ∧ m < blk.length) : nameV (blk ++ [g]) (some f) = nameV blk (some f) := by
  obtain ⟨m, rfl, hm⟩ := hf
  simp [nameV, List.getElem?_append_left hm, List.getD]
theorem MapIs.grow {blk : List Nat} {D : DataW Unit} {l : List (ByteArray × Int)} (h : MapIs blk D l) (ht : TidyD blk.length l) (g : Nat) : MapIs (blk ++ [g]) D l := by
  refine ⟨h.map, fun x => ?_, h.has⟩
  rw [h.at_ x]
  cases e : lookD l x with
  | none => rfl
  | some f =>
    obtain ⟨e', h1, _, h3⟩ := lookD_mem e
    exact (nameV_grow g (h3 ▸ ht.lt e' h1)).symm
theorem pe_grow {blk : List Nat} {p : Int × ByteArray × ByteArray × Int} (h : OkP blk.length p) (g : Nat) : pe (blk ++ [g]) p = pe blk p := by
  unfold pe
  rcases h.kind with e | e | e
  · obtain ⟨m, h1, h2⟩ := h.file (by omega)
    rw [if_pos e, if_pos e, h1]
    simp [List.getElem?_append_left h2, List.getD]
  · obtain ⟨m, h1, h2⟩ := h.file (by omega)
    rw [if_neg (by omega), if_pos e, if_neg (by omega), if_pos e, h1]
    simp [List.getElem?_append_left h2, List.getD]
  · rw [if_neg (by omega), if_neg (by omega), if_neg (by omega), if_neg (by omega)]

/-- The names that begin so, rising. -/
def namesL (l : List (ByteArray × Int)) (p : List UInt8) : List (List UInt8) := ((l.map fun e => e.1.data.toList).filter fun x => Lib.hasPrefix x p).mergeSort leB

theorem MapIs.risen {blk : List Nat} {D : DataW Unit} {l : List (ByteArray × Int)} (h : MapIs blk D l) {n : Nat} (ht : TidyD n l) {w : World} {b m : Nat} (hown : w.ownsMap Try.prog 9 fileElem b m D) (p : List UInt8) : risen D p = namesL l p := by
  unfold Ytipakfdebccchaa.risen namesL
  refine mergeSort_of_perm (List.Perm.filter _ ?_)
  have hti := hown.tidy law9
  obtain ⟨es, rfl, hes⟩ := hti
  refine (perm_strKeys hes (fun q hq => ?_) ?_ (fun x => ?_)).symm
  · obtain ⟨es', e, hk⟩ := hown.keysOf
    cases e
    obtain ⟨x, hx⟩ := hk q hq
    obtain ⟨y, _, h2, _⟩ := Maps.keyOf_str Try.underlying9 hx
    exact ⟨y, h2⟩
  · rw [List.Nodup, List.pairwise_map]
    exact ht.names
  · rw [h.has x, List.mem_map]
    constructor
    · rintro ⟨e, he, rfl⟩
      rw [mem_lookD ht.names he]
      rfl
    · intro hx
      obtain ⟨f, hf⟩ := Option.isSome_iff_exists.1 hx
      obtain ⟨e, h1, h2, _⟩ := lookD_mem hf
      exact ⟨e, h1, h2⟩

end Go.Proofs.Ytipakfdebccchaa
