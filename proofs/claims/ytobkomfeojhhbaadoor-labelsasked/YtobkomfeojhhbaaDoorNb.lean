/- The program's text of a set is the document's. -/
import Derived.Test.YtobkomfeojhhbaaDoorLg
import Derived.Test.YtobkomfeojhhbaaDoorMa
namespace Go.Proofs.YtobkomfeojhhbaaDoor

def stepR (r : Nat × List UInt8) (x : Lb) : Nat × List UInt8 := (r.1 + 1, r.2 ++ (if r.1 = 0 then [] else [44]) ++ x.1.data.toList ++ [61] ++ quoteL x.2.data.toList)
def foldR (m : ByteArray) (ls : List Lb) : Nat × List UInt8 := ls.foldl stepR (0, m.data.toList ++ [123])
def refTextL (m : ByteArray) (rest : List Lb) : List UInt8 := if (!m.toList.isEmpty && rest.isEmpty) = true then m.data.toList else (foldR m rest).2 ++ [125]

theorem tokB_list : tokB.toList = [95, 95, 110, 97, 109, 101, 95, 95] := by rw [ByteArray.toList_eq]; rfl
theorem foldT_filter (ls : List Lb) : ∀ r, ls.foldl stepT r = (ls.filter (notN tokB)).foldl stepT r := by
  induction ls with
  | nil => intro r; rfl
  | cons x t ih =>
    intro r
    rw [List.foldl_cons, List.filter_cons]
    cases h : (x.1.toList == [95, 95, 110, 97, 109, 101, 95, 95])
    · have h2 : notN tokB x = true := by unfold notN; rw [tokB_list, h]; rfl
      rw [if_pos h2, List.foldl_cons, ih]
    · have h2 : notN tokB x = false := by unfold notN; rw [tokB_list, h]; rfl
      have h3 : stepT r x = r := by unfold stepT; rw [if_pos h]
      rw [h3, if_neg (by rw [h2]; simp), ih]
theorem foldTR (ls : List Lb) (hn : ∀ x ∈ ls, notN tokB x = true) : ∀ n a, ls.foldl stepT (n + 1, a) = ls.foldl stepR (n + 1, a) := by
  induction ls with
  | nil => intro n a; rfl
  | cons x t ih =>
    intro n a
    have h2 := hn x List.mem_cons_self
    have h : (x.1.toList == [95, 95, 110, 97, 109, 101, 95, 95]) = false := by
      unfold notN at h2
      rw [tokB_list] at h2
      simpa using h2
    have h3 : stepT (n + 1, a) x = stepR (n + 1, a) x := by
      unfold stepT stepR
      rw [h]
      simp
    rw [List.foldl_cons, List.foldl_cons, h3]
    exact ih (fun y hy => hn y (List.mem_cons_of_mem _ hy)) _ _
theorem foldR_count (ls : List Lb) : ∀ r, (ls.foldl stepR r).1 = r.1 + ls.length := by
  induction ls with
  | nil => intro r; rfl
  | cons x t ih => intro r; rw [List.foldl_cons, ih, List.length_cons]; unfold stepR; dsimp only; omega
theorem textL_ref (ls : List Lb) : textL ls = refTextL (getL ls tokB) (chosenL ls [tokB] false) := by
  rw [chosen_one]
  unfold textL foldT refTextL foldR
  generalize getL ls tokB = m
  rw [foldT_filter]
  have hn : ∀ x ∈ ls.filter (notN tokB), notN tokB x = true := fun x hx => (List.mem_filter.1 hx).2
  generalize ls.filter (notN tokB) = rs at *
  cases rs with
  | nil =>
    unfold endT
    cases hm : m.toList.isEmpty
    · simp
    · simp
  | cons x t =>
    have h2 := hn x List.mem_cons_self
    have h : (x.1.toList == [95, 95, 110, 97, 109, 101, 95, 95]) = false := by
      unfold notN at h2
      rw [tokB_list] at h2
      simpa using h2
    have h3 : stepT (0, m.data.toList) x = stepR (0, m.data.toList ++ [123]) x := by
      unfold stepT stepR
      rw [h]
      simp
    rw [if_neg (by simp), List.foldl_cons, List.foldl_cons, h3]
    have e : stepR (0, m.data.toList ++ [123]) x = (0 + 1, (stepR (0, m.data.toList ++ [123]) x).2) := rfl
    rw [e, foldTR t (fun y hy => hn y (List.mem_cons_of_mem _ hy))]
    have hc := foldR_count t (0 + 1, (stepR (0, m.data.toList ++ [123]) x).2)
    unfold endT
    rw [if_pos (by rw [hc]; dsimp only; omega)]

end Go.Proofs.YtobkomfeojhhbaaDoor
