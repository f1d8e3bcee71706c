/- The document's disk, whole; a file is created. -/
import Derived.Test.YtipakfdebccchaaMR4
namespace Go.Proofs.Ytipakfdebccchaa
open Go.RowKit Go.Maps Go.Sort

theorem info93 : (Try.prog.info? 93).map (fun i => (i.zero, i.size, i.bytes)) = some (some (.agg #[.slice none 0 0, .int .i64 0]), 2, 32) := by kernel_rfl
theorem info96 : (Try.prog.info? 85).map (fun i => (i.zero, i.size, i.bytes)) = some (some (.agg #[.int .i64 0, .string ByteArray.empty, .string ByteArray.empty, .int .i64 0]), 4, 48) := by kernel_rfl
theorem info103 : (Try.prog.info? 79).map (fun i => (i.zero, i.size, i.bytes)) = some (some (.agg #[.int .i64 0, .int .i64 0]), 2, 16) := by kernel_rfl

section
variable {α : Type} (f : α → List Value) (n : Nat) (hf : ∀ a, (f a).length = n)
include hf
theorem flat_length (l : List α) : (l.flatMap f).length = l.length * n := by
  induction l with
  | nil => simp
  | cons a r ih => rw [List.flatMap_cons, List.length_append, hf, ih, List.length_cons, Nat.succ_mul]; omega
theorem flat_at (l : List α) (k : Nat) (hk : k < l.length) (j : Nat) (hj : j < n) : (l.flatMap f)[k * n + j]? = (f l[k])[j]? := by
  induction l generalizing k with
  | nil => simp at hk
  | cons a r ih =>
    rw [List.flatMap_cons]
    cases k with
    | zero => rw [Nat.zero_mul, Nat.zero_add, List.getElem?_append_left (by rw [hf]; exact hj)]; rfl
    | succ k =>
      rw [List.getElem?_append_right (by rw [hf, Nat.succ_mul]; omega), hf, show (k + 1) * n + j - n = k * n + j by rw [Nat.succ_mul]; omega, ih k (by simpa using hk)]
      rfl
end

def rfCell (x : Value × List UInt8 × Int) : List Value := [x.1, .int .i64 x.2.2]
def rfCells (l : List (Value × List UInt8 × Int)) : List Value := l.flatMap rfCell
def rcCell (x : Int × ByteArray × ByteArray × Int) : List Value := [.int .i64 x.1, .string x.2.1, .string x.2.2.1, .int .i64 x.2.2.2]
def rcCells (l : List (Int × ByteArray × ByteArray × Int)) : List Value := l.flatMap rcCell
def rqCell (x : Int × Int) : List Value := [.int .i64 x.1, .int .i64 x.2]
def rqCells (l : List (Int × Int)) : List Value := l.flatMap rqCell

/-- What the document's disk holds. -/
structure RSt where
  base : Nat
  cap : Int
  stop : Int
  cnt : Int
  fv : Value
  dv : Value
  kv : Value
  pv : Value
  qv : Value
  files : List (Value × List UInt8 × Int)
  dir : List (ByteArray × Int)
  kept : List (ByteArray × Int)
  pend : List (Int × ByteArray × ByteArray × Int)
  faults : List (Int × Int)
  zone : Nat → Prop

/-- The blocks that it may write. -/
def RSt.own (s : RSt) (r : Nat) (k : Nat) : Prop := k = r ∨ s.fv.ownBlock = some k ∨ s.pv.ownBlock = some k ∨ s.qv.ownBlock = some k

/-- Bytes that lie in a block of bytes. -/
structure RB (w : World) (v : Value) (bs : List UInt8) : Prop where
  at_ : BytesAt w v bs
  blk : ∀ b, v.ownBlock = some b → ∃ cs fr, w.heap[b]? = some (.cells cs 5 fr)

/-- Its files' bytes lie outside the zone, which is older than what comes. -/
def Sep (w : World) (s : RSt) : Prop := (∀ b, s.zone b → b < w.heap.size) ∧ ∀ x, x ∈ s.files → ∀ b, x.1.ownBlock = some b → ¬ s.zone b
theorem Sep.of {w w' : World} {s s' : RSt} (h : Sep w s) (hs : w.heap.size ≤ w'.heap.size) (hf : s'.files = s.files) (hz : s'.zone = s.zone) : Sep w' s' := by
  refine ⟨fun b hb => Nat.lt_of_lt_of_le (h.1 b (hz ▸ hb)) hs, fun x hx b hb => ?_⟩
  rw [hz]
  exact h.2 x (hf ▸ hx) b hb

structure IsRef (w : World) (r : Nat) (s : RSt) : Prop where
  lo : s.base ≤ r
  at_ : RefAt w r s.cap s.fv s.dv s.kv s.pv s.qv s.stop s.cnt
  rF : w.ownsRow s.base 93 2 s.fv s.files.length (rfCells s.files)
  rD : w.ownsRow s.base 90 2 s.dv s.dir.length (entCells s.dir)
  rK : w.ownsRow s.base 90 2 s.kv s.kept.length (entCells s.kept)
  rP : w.ownsRow s.base 85 4 s.pv s.pend.length (rcCells s.pend)
  rQ : w.ownsRow s.base 79 2 s.qv s.faults.length (rqCells s.faults)
  bytes : ∀ x, x ∈ s.files → RB w x.1 x.2.1
  sep : Sep w s

theorem row_block {w : World} {base n size : Nat} {e : TypeId} {v : Value} {xs : List Value} (ho : w.ownsRow base e size v n xs) {k : Nat} (hk : v.ownBlock = some k) : ∃ cs fr, w.heap[k]? = some (.cells cs e fr) := by
  rcases ho.2 with ⟨rfl, _⟩ | ⟨g, cap, cur, rfl, _, hg, _⟩
  · cases hk
  · simp [Value.ownBlock] at hk
    subst hk
    exact ⟨_, _, hg⟩

/-- Rows of unlike elements lie apart. -/
theorem rows_apart {w : World} {base n size base' n' size' : Nat} {e e' : TypeId} {v v' : Value} {xs xs' : List Value} (ho : w.ownsRow base e size v n xs) (ho' : w.ownsRow base' e' size' v' n' xs') (he : e ≠ e') {k : Nat} (hk : v.ownBlock = some k) : ¬ v'.ownBlock = some k := by
  intro hk'
  obtain ⟨cs, fr, h1⟩ := row_block ho hk
  obtain ⟨cs', fr', h2⟩ := row_block ho' hk'
  rw [h1] at h2
  simp at h2
  exact he h2.2.1

theorem RB.kept {w w' : World} {v : Value} {bs : List UInt8} (h : RB w v bs) {O : Nat → Prop} (k : Kept O w w') (hO : ∀ b, (∃ cs fr, w.heap[b]? = some (.cells cs 5 fr)) → ¬ O b) : RB w' v bs :=
  ⟨h.at_.kept k (fun b hb _ => hO b (h.blk b hb)), fun b hb => by obtain ⟨cs, fr, e⟩ := h.blk b hb; exact ⟨cs, fr, k.heap e (hO b ⟨cs, fr, e⟩)⟩⟩

theorem RB.apart {w : World} {v : Value} {bs : List UInt8} (h : RB w v bs) {base n size : Nat} {e : TypeId} {v' : Value} {xs : List Value} (ho : w.ownsRow base e size v' n xs) (he : 5 ≠ e) {k : Nat} (hk : v.ownBlock = some k) : ¬ v'.ownBlock = some k := by
  intro hk'
  obtain ⟨cs, fr, h1⟩ := h.blk k hk
  obtain ⟨cs', fr', h2⟩ := row_block ho hk'
  rw [h1] at h2
  simp at h2
  exact he h2.2.1

theorem IsRef.five {w : World} {r : Nat} {s : RSt} (h : IsRef w r s) {b : Nat} (hb : ∃ cs fr, w.heap[b]? = some (.cells cs 5 fr)) : ¬ s.own r b := by
  obtain ⟨cs, fr, hb⟩ := hb
  rintro (e | e | e | e)
  · subst e; have := h.at_; unfold RefAt at this; rw [this] at hb; simp at hb
  all_goals
    obtain ⟨cs', fr', h2⟩ := row_block (by first | exact h.rF | exact h.rP | exact h.rQ) e
    rw [h2] at hb
    simp at hb

theorem IsRef.kept {w w' : World} {r : Nat} {s : RSt} (h : IsRef w r s) {O : Nat → Prop} (k : Kept O w w') (h1 : ¬ O r) (hO : ∀ b t, (t = 93 ∨ t = 90 ∨ t = 85 ∨ t = 79 ∨ t = 5) → (∃ cs fr, w.heap[b]? = some (.cells cs t fr)) → ¬ O b) : IsRef w' r s :=
  ⟨h.lo, h.at_.kept k h1, k.ownsRow h.rF (fun b hb => hO b 93 (by simp) (row_block h.rF hb)), k.ownsRow h.rD (fun b hb => hO b 90 (by simp) (row_block h.rD hb)), k.ownsRow h.rK (fun b hb => hO b 90 (by simp) (row_block h.rK hb)), k.ownsRow h.rP (fun b hb => hO b 85 (by simp) (row_block h.rP hb)), k.ownsRow h.rQ (fun b hb => hO b 79 (by simp) (row_block h.rQ hb)),
    fun x hx => (h.bytes x hx).kept k (fun b hb => hO b 5 (by simp) hb), h.sep.of k.size rfl rfl⟩

theorem IsRef.room {w : World} {r : Nat} {s : RSt} (h : IsRef w r s) : s.base ≤ w.heap.size := by
  have h1 := h.lo
  have h2 := h.at_.lt
  omega

end Go.Proofs.Ytipakfdebccchaa
