/- Plan: the walk. -/
import Derived.Test.YtfkahbgphoonaaaXi
namespace Go.Proofs.Ytfkahbgphoonaaa
open Go.RowKit Go.Shelf Go.Maps Go.Sort

def wdF (width : Int) : Int := min (max width 1) 9007199254740993
/-- What is planned: the names of the first lot. -/
def PlanOf (L : List Mt) (nw wd : Int) (ns : List ByteArray) : Prop :=
  (∃ ls : List Mb, ls.Perm (mbsF 0 nw (3 * wd) L) ∧ SortedM ls ∧ lotF ls ≠ [] ∧ ns = (lotF ls).map (·.2.nm)) ∨
  (∃ l0 ls : List Mb, (l0.Perm (mbsF 0 nw (3 * wd) L) ∧ SortedM l0 ∧ lotF l0 = []) ∧ ls.Perm (mbsF 1 nw (9 * wd) L) ∧ SortedM ls ∧ ns = (lotF ls).map (·.2.nm))
theorem planOf_count {L : List Mt} {nw wd : Int} {ns : List ByteArray} (h : PlanOf L nw wd ns) (hw : 1 ≤ wd) : ns = [] ∨ 2 ≤ L.countP (inF ns) := by
  rcases h with ⟨ls, hp, -, -, rfl⟩ | ⟨-, ls, -, hp, -, rfl⟩
  · rcases lotF_two ls with h | h
    · left; rw [h]; rfl
    · right; have := lot_count 0 nw (3 * wd) (by omega) L ls hp; omega
  · rcases lotF_two ls with h | h
    · left; rw [h]; rfl
    · right; have := lot_count 1 nw (9 * wd) (by omega) L ls hp; omega
theorem mbsF_nm {level newest span : Int} {L : List Mt} {x : Mb} (h : x ∈ mbsF level newest span L) : ∃ m ∈ L, m.nm = x.2.nm := by
  unfold mbsF at h
  obtain ⟨m, hm, hx⟩ := List.mem_flatMap.1 h
  refine ⟨m, hm, ?_⟩
  unfold oneF at hx
  split at hx
  · obtain ⟨b, -, rfl⟩ := List.mem_map.1 hx
    rfl
  · simp at hx
theorem planOf_mem {L : List Mt} {nw wd : Int} {ns : List ByteArray} (h : PlanOf L nw wd ns) : ∀ n ∈ ns, ∃ m ∈ L, m.nm = n := by
  intro n hn
  rcases h with ⟨ls, hp, -, -, rfl⟩ | ⟨-, ls, -, hp, -, rfl⟩
  · obtain ⟨x, hx, rfl⟩ := List.mem_map.1 hn
    exact mbsF_nm (hp.mem_iff.1 ((lotF_sub ls).subset hx))
  · obtain ⟨x, hx, rfl⟩ := List.mem_map.1 hn
    exact mbsF_nm (hp.mem_iff.1 ((lotF_sub ls).subset hx))
theorem lotF_le (l : List Mb) : (lotF l).length ≤ l.length := (lotF_sub l).length_le

set_option maxRecDepth 100000 in
set_option maxHeartbeats 2000000 in
theorem plan_any (v : Value) (L : List Mt) (newest width : Int) (w : World) (h : MtAt w v L) (hl : L.length ≤ 1000) :
    Calls Try.prog 6 #[v, .int .i64 newest, .int .i64 width] w fun e w' => ∃ a c ns, e = .returned (.slice a ns.length c) ∧ PlanOf L (cl newest) (wdF width) ns ∧ ns.length ≤ 2000 ∧ w'.ownsRow w.heap.size 9 1 (.slice a ns.length c) ns.length (stC ns) ∧ Below w.heap.size w w' := by
  obtain ⟨a1, c1, rfl, -⟩ := id h
  have HL : Hid (∀ W, Below w.heap.size w W → MtAt W (.slice a1 L.length c1) L) := fun W hW => RowAt.below h hW
  clear h
  obtain ⟨wd, hwd⟩ : ∃ wd, wd = wdF width := ⟨_, rfl⟩
  rw [← hwd]
  unfold wdF at hwd
  have hw1 : 1 ≤ wd ∧ wd ≤ 9007199254740993 := by omega
  obtain ⟨nw, hnw⟩ : ∃ nw, nw = cl newest := ⟨_, rfl⟩
  have hn1 : -9007199254740992 ≤ nw ∧ nw ≤ 9007199254740992 := by rw [hnw]; exact cl_in newest
  have HWI : Hid (∀ W, Calls Try.prog 16 #[.int .i64 newest] W fun e w' => e = .returned (.int .i64 nw) ∧ w' = W) := fun W => by rw [hnw]; exact within_any newest W
  rw [← hnw]
  clear hnw
  have hw3 : IntKind.i64.wrap (3 * wd) = 3 * wd := by rw [IntKind.wrap_i64]; omega
  have hw9 : IntKind.i64.wrap (9 * wd) = 9 * wd := by rw [IntKind.wrap_i64]; omega
  replace hwd := hwd.symm
  go_enter Try.func6, Try.ntmps6
  go_wp2
  go_loopg [19] 2 (fun g i wr => ∃ (k : Nat), k ≤ 2 ∧ g = 2 - k ∧ i = .int .i64 k ∧ Hid (wr.heap[w.heap.size]? = some (.cells #[.int .i64 (3 * wd), .int .i64 (9 * wd)] 3)) ∧ Hid (Below w.heap.size w wr) ∧ Hid ((1 ≤ k → ∃ l0 : List Mb, l0.Perm (mbsF 0 nw (3 * wd) L) ∧ SortedM l0 ∧ lotF l0 = []) ∧ (k = 2 → ∃ ls : List Mb, ls.Perm (mbsF 1 nw (9 * wd) L) ∧ SortedM ls ∧ lotF ls = [])))
  case atStart => exact ⟨0, by omega, rfl, rfl, heap_alloc_new w _, (Below.refl _ _).alloc (Nat.le_refl _) _, ⟨fun h => by omega, fun h => by omega⟩⟩
  case round =>
    obtain ⟨k, hk, hgk, rfl, hbx, hbel, hcd⟩ := hrel
    have hsw := hbel.out.size
    have hgs : w.heap.size < wr.heap.size := (Array.getElem?_eq_some_iff.1 hbx.out).1
    clear hw3 hw9 hwd
    by_cases hlt : k < 2
    · obtain ⟨sp, hsp, hc0⟩ : ∃ sp, ((k = 0 ∧ sp = 3 * wd) ∨ (k = 1 ∧ sp = 9 * wd)) ∧ wr.cell? ⟨w.heap.size, k, none⟩ = some (.int .i64 sp) := by
        obtain rfl | rfl : k = 0 ∨ k = 1 := by omega
        · exact ⟨3 * wd, Or.inl ⟨rfl, rfl⟩, World.news_of_block hbx.out 0 _ rfl⟩
        · exact ⟨9 * wd, Or.inr ⟨rfl, rfl⟩, World.news_of_block hbx.out 1 _ rfl⟩
      have hkl : (k : Int) < 2 := by omega
      have hspb : 1 ≤ sp ∧ sp ≤ 900719925474099300 := by omega
      have HSP : Hid ((k = 0 ∧ sp = 3 * wd) ∨ (k = 1 ∧ sp = 9 * wd)) := hsp
      have HMM : Hid (Calls Try.prog 15 #[.slice a1 L.length c1, .int .i64 k, .int .i64 nw, .int .i64 sp] wr fun e w' => ∃ a c ls, e = .returned (.slice a ls.length c) ∧ ls.Perm (mbsF k nw sp L) ∧ SortedM ls ∧ w'.ownsRow wr.heap.size 63 5 (.slice a ls.length c) ls.length (mbC ls) ∧ Below wr.heap.size wr w') := members_any (.slice a1 L.length c1) L k nw sp wr (HL.out wr hbel.out) hl hspb hn1
      clear hsp
      go_wp2_with (first
        | (go_at_call 16; refine (HWI.out _).mono ?_; clear HWI; rintro e w1 ⟨rfl, e8⟩; have e8 := e8.symm; subst e8)
        | (go_at_call 15; refine HMM.out.mono ?_; clear HMM; rintro e w2 ⟨a2, c2, ls, rfl, hp2, hs2, hr2, hb2⟩; obtain ⟨lt, hlt9⟩ : ∃ lt, lt = lotF ls := ⟨_, rfl⟩; have HFL : Hid (Calls Try.prog 14 #[.slice a2 ls.length c2] w2 fun e w' => ∃ a c, e = .returned (.slice a lt.length c) ∧ w'.ownsRow w2.heap.size 9 1 (.slice a lt.length c) lt.length (stC (lt.map (·.2.nm))) ∧ Below w2.heap.size w2 w') := (by rw [hlt9]; exact firstLot_any (.slice a2 ls.length c2) ls w2 (RowAt.of_row hr2) (by have := mbsF_le k nw sp L; have := hp2.length_eq; omega)); have HP2 : Hid (lt = lotF ls ∧ ls.Perm (mbsF k nw sp L) ∧ SortedM ls ∧ Below wr.heap.size wr w2) := ⟨hlt9, hp2, hs2, hb2⟩; clear hlt9 hp2 hs2 hb2 hr2)
        | (go_at_call 14; refine HFL.out.mono ?_; clear HFL; rintro e w3 ⟨a3, c3, rfl, hr3, hb3⟩; have HR3 : Hid (_ ∧ _) := ⟨hr3, hb3⟩; clear hr3 hb3))
      · go_ret
        obtain ⟨hr3, hb3⟩ := HR3.out
        obtain ⟨e9, hp2, hs2, hb2⟩ := HP2.out
        have hne : lotF ls ≠ [] := by rw [← e9]; intro h; subst h; simp at *
        have hll : lt.length ≤ 2000 := by
          have h1 := mbsF_le k nw sp L
          have h2 := hp2.length_eq
          have h3 := lotF_le ls
          rw [e9]; omega
        refine ⟨a3, c3, lt.map (·.2.nm), by rw [List.length_map]; rfl, ?_, by rw [List.length_map]; exact hll, ?_, hbel.out.trans ((hb2.trans (hb3.mono hb2.size)).mono hsw)⟩
        · rcases HSP.out with ⟨rfl, rfl⟩ | ⟨rfl, rfl⟩
          · exact Or.inl ⟨ls, hp2, hs2, hne, by rw [e9]⟩
          · obtain ⟨l0, h0⟩ := hcd.out.1 (by omega)
            exact Or.inr ⟨l0, ls, h0, hp2, hs2, by rw [e9]⟩
        · rw [List.length_map]
          exact row_mono hr3 (Nat.le_trans hsw hb2.size)
      · obtain ⟨hr3, hb3⟩ := HR3.out
        obtain ⟨e9, hp2, hs2, hb2⟩ := HP2.out
        have hnil : lotF ls = [] := by
          rw [← e9]
          refine List.eq_nil_of_length_eq_zero ?_
          omega
        have hb9 : Below wr.heap.size wr w3 := hb2.trans (hb3.mono hb2.size)
        go_roundg (2 - (k + 1))
        case rel =>
          refine ⟨k + 1, by omega, rfl, by go_num, ?_, hbel.out.trans (hb9.mono hsw), ?_⟩
          · show _ = _
            rw [hb9.block w.heap.size hgs]; exact hbx.out
          · refine ⟨fun _ => ?_, fun h => ?_⟩
            · rcases HSP.out with ⟨rfl, rfl⟩ | ⟨rfl, rfl⟩
              · exact ⟨ls, hp2, hs2, hnil⟩
              · exact hcd.out.1 (by omega)
            · rcases HSP.out with ⟨rfl, rfl⟩ | ⟨rfl, rfl⟩
              · omega
              · exact ⟨ls, hp2, hs2, hnil⟩
        case measure => omega
    · obtain rfl : k = 2 := by omega
      go_wp2_with fail
      go_ret
      obtain ⟨l0, h0⟩ := hcd.out.1 (by omega)
      obtain ⟨ls, h1, h2, h3⟩ := hcd.out.2 (by simp)
      exact ⟨none, 0, [], rfl, Or.inr ⟨l0, ls, h0, h1, h2, by rw [h3]; rfl⟩, by simp, World.ownsRow_nil _ _ _ _, hbel.out⟩

end Go.Proofs.Ytfkahbgphoonaaa
