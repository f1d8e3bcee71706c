/- The document's Cuts, walked. -/
import Derived.Test.YtdmkfogohacaiaaZb
namespace Go.Proofs.Ytdmkfogohacaiaa
open Go.RowKit Go.Maps

theorem InAt.take {w : World} {a : Option Addr} {c : Nat} {l : List Int} (h : InAt w (.slice a l.length c) l) (k : Nat) (hk : k ≤ l.length) : InAt w (.slice a k c) (l.take k) := by
  obtain ⟨a', c', e, h1, h2, h3⟩ := h
  cases e
  have hl : (l.take k).length = k := by simp; omega
  refine ⟨a, c, by rw [hl], ⟨by omega, h1.2⟩, by simp [inC], fun j u hu => h3 j u ?_⟩
  have hj : j < k := by
    have := (List.getElem?_eq_some_iff.1 hu).1
    simp [inC] at this
    omega
  rw [show inC (l.take k) = (inC l).take k by simp [inC, List.map_take], List.getElem?_take_of_lt hj] at hu
  exact hu
theorem InAt.drop {w : World} {b o c : Nat} {l : List Int} (h : InAt w (.slice (some ⟨b, o, none⟩) l.length c) l) (k : Nat) (hk : k ≤ l.length) : InAt w (.slice (some ⟨b, o + k, none⟩) (l.length - k) (c - k)) (l.drop k) := by
  obtain ⟨a', c', e, h1, h2, h3⟩ := h
  cases e
  refine ⟨some ⟨b, o + k, none⟩, c - k, by rw [List.length_drop], ⟨by rw [List.length_drop]; omega, by omega⟩, by simp [inC], fun j u hu => ?_⟩
  rw [show inC (l.drop k) = (inC l).drop k by simp [inC, List.map_drop], List.getElem?_drop] at hu
  obtain ⟨b', o', e, h4, h5⟩ := h3 _ _ hu
  cases e
  exact ⟨b, o + k, rfl, h4, by rw [Nat.add_assoc]; exact h5⟩

theorem RowAt.empty {w : World} (a : Option Addr) (c : Nat) (hc : c ≤ maxLen) : RowAt w (.slice a 0 c) 1 0 [] := ⟨a, c, rfl, ⟨Nat.zero_le _, hc⟩, rfl, fun j u hu => by simp at hu⟩

set_option maxRecDepth 100000 in
set_option maxHeartbeats 4000000 in
theorem refCuts_any (v : Value) (ts : List Int) (newest width : Int) (w : World) (h : InAt w v ts) (hl : ts.length ≤ 1000) (hw : -9223372036854775808 ≤ width ∧ width ≤ 9223372036854775807) :
    Calls Try.prog 7 #[v, .int .i64 newest, .int .i64 width] w fun e w' => ∃ u, e = .returned u ∧ InAt w' u (cutsF ts newest width) ∧ Below w.heap.size w w' := by
  obtain ⟨a1, c1, rfl, -⟩ := id h
  have HL : Hid (InAt w (.slice a1 ts.length c1) ts) := h
  have hwi := fun W => refWide width W
  have hin := fun W => refInside newest W
  obtain ⟨m, hm⟩ : ∃ m, m = max width 1 := ⟨_, rfl⟩
  have hm1 : 1 ≤ m ∧ m ≤ 9223372036854775807 := by omega
  by_cases hgr : 36028797018963968 < m
  · have he := cuts_great ts newest width (by omega) (by omega)
    rw [← hm] at hwi
    rw [he]
    clear h hm he
    go_enter Try.func7, Try.ntmps7
    go_wp2_with (go_at_call 16; refine (hwi _).mono ?_; clear hwi; rintro e w1 ⟨rfl, e8⟩; have e8 := e8.symm; subst e8)
    go_ret
    exact ⟨_, rfl, ⟨none, 0, rfl, ⟨Nat.le_refl _, Nat.zero_le _⟩, rfl, fun j u hu => by simp [inC] at hu⟩, Below.refl _ _⟩
  · have hci := cl_in newest
    have hfl := fun t W => refFloor t m W (by omega)
    have HCE : Hid (∀ l, CutsOf m (cl newest - m / 2) ts l → l = cutsF ts newest width) := fun l hl => CutsOf.eq (by unfold ripeF; rw [← hm]; exact hl)
    rw [← hm] at hwi
    generalize cl newest = u at *
    have hq : m.tdiv 2 = m / 2 := Int.tdiv_eq_ediv_of_nonneg (by omega)
    have hwr : IntKind.i64.wrap (u - m / 2) = u - m / 2 := by rw [IntKind.wrap_i64]; omega
    obtain ⟨r, hr⟩ : ∃ r, u - m / 2 = r := ⟨_, rfl⟩
    rw [hr] at HCE
    clear h hm
    go_enter Try.func7, Try.ntmps7
    go_wp2_with (first
      | (go_at_call 16; refine (hwi _).mono ?_; clear hwi; rintro e w1 ⟨rfl, e8⟩; have e8 := e8.symm; subst e8)
      | (go_at_call 17; refine (hin _).mono ?_; clear hin; rintro e w1 ⟨rfl, e8⟩; have e8 := e8.symm; subst e8))
    clear hr hwr hq
    go_loopw [9, 10] (fun vo i wr => ∃ (k : Nat) (l : List Int) (a : Option Addr) (c : Nat), k ≤ ts.length ∧ i = .int .i64 k ∧ vo = .slice a l.length c ∧ Hid (CutsOf m r (ts.take k) l ∧ l.length ≤ k) ∧ Hid (InAt wr (.slice a l.length c) l) ∧ Hid (Below w.heap.size w wr)) (fun _ i _ => ts.length - (intOf i).toNat)
    case atStart => exact ⟨0, [], none, 0, Nat.zero_le _, rfl, rfl, ⟨CutsOf.nil _ _, Nat.le_refl _⟩, ⟨none, 0, rfl, ⟨Nat.le_refl _, Nat.zero_le _⟩, rfl, fun j u hu => by simp [inC] at hu⟩, Below.refl _ _⟩
    case round =>
      obtain ⟨k, l, a, c, hk, rfl, rfl, hcut, hat, hbel⟩ := hrel
      have hsw := hbel.out.size
      have hll := hcut.out.2
      generalize wr = wo at *
      by_cases hlt : k < ts.length
      · obtain ⟨b0, o0, e0, hone⟩ := InAt.one HL.out k hlt
        subst e0
        have g0 := hone wo hbel.out
        obtain ⟨t, ht⟩ : ∃ t, t = ts[k] := ⟨_, rfl⟩
        rw [← ht] at g0
        have hb := fl_hi t m hm1
        have hfl1 := hfl t
        obtain ⟨b, hbe⟩ : ∃ b, b = flF t m := ⟨_, rfl⟩
        have HTK : Hid (ts.take (k + 1) = ts.take k ++ [t]) := by show _ = _; rw [List.take_succ_eq_append_getElem hlt, ht]
        rw [← hbe] at hb hfl1
        have hkl : (k : Int) < (ts.length : Int) := by omega
        have hwb : IntKind.i64.wrap (b + m) = b + m := by rw [IntKind.wrap_i64]; omega
        have HBE : Hid (flF t m = b) := hbe.symm
        clear hone ht hbe hfl
        by_cases hle : b + m ≤ r
        · go_wp2_with (go_at_call 9; refine (hfl1 _).mono ?_; clear hfl1; rintro e w1 ⟨rfl, e8⟩; have e8 := e8.symm; subst e8)
          go_loopw [12] (fun i wr => ∃ j : Nat, j ≤ l.length ∧ i = .int .i64 j ∧ wr = wo ∧ Hid (∀ x (hx : x < l.length), x < j → l[x] < b)) (fun i _ => l.length - (intOf i).toNat)
          case atStart => exact ⟨0, Nat.zero_le _, rfl, rfl, fun x hx h => by omega⟩
          case round =>
            obtain ⟨j, hj, rfl, e8, hall⟩ := hrel
            subst e8
            have HTKE : Hid (CutsOf m r (ts.take k) l) := hcut.out.1
            by_cases hjl : j < l.length
            · obtain ⟨b3, o3, e3, hone3⟩ := InAt.one hat.out j hjl
              subst e3
              have g3 := hone3 wr (Below.refl _ _)
              obtain ⟨y, hy⟩ : ∃ y, l[j] = y := ⟨_, rfl⟩
              rw [hy] at g3
              have hjl2 : (j : Int) < (l.length : Int) := by omega
              obtain ⟨_, _, e9, hcl, -⟩ := RowAt.sub hat.out
              cases e9
              have HY : Hid (l[j] = y) := hy
              clear hone3 hy
              by_cases hyb : y < b
              · go_wp2
                go_roundw
                case rel => exact ⟨j + 1, by omega, by go_num, trivial, fun x hx h => by
                  rcases Nat.lt_or_ge x j with h9 | h9
                  · exact hall.out x hx h9
                  · have : x = j := by omega
                    subst this
                    rw [HY.out]
                    exact hyb⟩
                case measure => simp [intOf]; omega
              · by_cases hye : y = b
                · have HSA : Hid (CutsOf m r (ts.take (k + 1)) l) := by
                    show CutsOf _ _ _ _
                    rw [HTK.out]
                    refine HTKE.out.same ?_
                    rw [HBE.out, ← hye, ← HY.out]
                    exact List.getElem_mem _
                  go_wp2_with fail
                  exact ⟨⟨k + 1, l, _, c, by omega, by go_num, rfl, ⟨HSA.out, by omega⟩, hat, hbel⟩, by simp [intOf]; omega⟩
                · have HPUT : Hid (CutsOf m r (ts.take (k + 1)) (l.take j ++ [b] ++ l.drop j)) := by
                    show CutsOf _ _ _ _
                    rw [HTK.out, ← HBE.out]
                    refine HTKE.out.put (by rw [HBE.out]; exact hle) j hj (fun x hx h => by rw [HBE.out]; exact hall.out x hx h) (fun _ => ?_)
                    rw [HBE.out, HY.out]
                    omega
                  have HT0 : Hid (∀ X, Below wr.heap.size wr X → RowAt X (.slice (some ⟨b3, o3, none⟩) j c) 1 j (inC (l.take j))) := fun X hX => by
                    have h9 := InAt.take (RowAt.below hat.out hX) j hj
                    unfold InAt at h9
                    rw [List.length_take, Nat.min_eq_left hj] at h9
                    exact h9
                  have HD0 : Hid (∀ X, Below wr.heap.size wr X → RowAt X (.slice (some ⟨b3, o3 + j, none⟩) (l.length - j) (c - j)) 1 (l.length - j) (inC (l.drop j))) := fun X hX => by
                    have h9 := InAt.drop (RowAt.below hat.out hX) j hj
                    unfold InAt at h9
                    rw [List.length_drop] at h9
                    exact h9
                  have hcj : (j : Int) ≤ (c : Int) := by omega
                  have hcj2 : ¬ (c = j) := by omega
                  go_wp2_with (first
                    | (at_builtin; refine wpList_append_row appIn _ rfl _ _ rfl wr.heap.size (.slice (some ⟨wr.heap.size, 0, none⟩) 0 0) 0 [] rfl (row_empty wr _ _ (Nat.le_refl _)) _ j (inC (l.take j)) rfl (HT0.out _ ((Below.refl _ _).alloc (Nat.le_refl _) _)) (inC_one _) (by omega) (by simp) ?_; intro a5 c5 w5 hr5 hg5 _; rw [Nat.zero_add, List.nil_append] at hr5; rw [Nat.zero_add]; have hb5 : Below wr.heap.size wr w5 := ((Below.refl _ wr).alloc (Nat.le_refl _) _).grown hg5 (by simp) (fun i hi => by simp [Value.ownBlock] at hi; omega); have hs5 := hb5.size; have HB5 : Hid (Below wr.heap.size wr w5) := hb5; have HR5 : Hid (w5.ownsRow wr.heap.size 3 1 (.slice a5 j c5) j (inC (l.take j))) := hr5; clear hb5 hr5 hg5)
                    | (at_builtin; refine wpList_append_row appIn _ rfl _ _ rfl wr.heap.size (.slice a5 j c5) j (inC (l.take j)) rfl (World.ownsRow.alloc HR5.out _) _ 1 [.int .i64 b] rfl (RowAt.of_block (cs := #[.int .i64 b]) (heap_alloc_new w5 _) rfl (by decide)) (by simp [Value.oneCell']) (by omega) (by simp; omega) ?_; intro a6 c6 w6 hr6 hg6 _; have hb6 : Below wr.heap.size wr w6 := (HB5.out.alloc hs5 _).grown hg6 (by simp; omega) (fun i hi => (World.ownsRow.lt HR5.out i hi).1); have hs6 := hb6.size; have HB6 : Hid (Below wr.heap.size wr w6) := hb6; have HR6 : Hid (w6.ownsRow wr.heap.size 3 1 (.slice a6 (j + 1) c6) (j + 1) (inC (l.take j) ++ [.int .i64 b])) := hr6; clear hb6 hr6 hg6)
                    | (at_builtin; refine wpList_append_row appIn _ rfl _ _ rfl wr.heap.size (.slice a6 (j + 1) c6) (j + 1) (inC (l.take j) ++ [.int .i64 b]) rfl HR6.out _ (l.length - j) (inC (l.drop j)) rfl (HD0.out _ HB6.out) (inC_one _) (by omega) hs6 ?_; intro a7 c7 w7 hr7 hg7 _; have hb7 : Below wr.heap.size wr w7 := HB6.out.grown hg7 hs6 (fun i hi => (World.ownsRow.lt HR6.out i hi).1); have HB7 : Hid (Below wr.heap.size wr w7) := hb7; have HR7 : Hid (w7.ownsRow wr.heap.size 3 1 (.slice a7 (j + 1 + (l.length - j)) c7) (j + 1 + (l.length - j)) (inC (l.take j) ++ [.int .i64 b] ++ inC (l.drop j))) := hr7; clear hb7 hr7 hg7))
                  have hnl : (l.take j ++ [b] ++ l.drop j).length = j + 1 + (l.length - j) := by simp; omega
                  refine ⟨⟨k + 1, l.take j ++ [b] ++ l.drop j, a7, c7, by omega, by go_num, by rw [hnl], ⟨HPUT.out, by rw [hnl]; omega⟩, ?_, hbel.out.trans (HB7.out.mono hsw)⟩, by simp [intOf]; omega⟩
                  show InAt _ _ _
                  unfold InAt
                  rw [hnl, inC_append, inC_append]
                  exact RowAt.of_row HR7.out
            · have hje : j = l.length := by omega
              have hjl2 : ¬ (j : Int) < (l.length : Int) := by omega
              obtain ⟨_, _, e9, hcl, hcm⟩ := RowAt.sub hat.out
              cases e9
              have HPUT : Hid (CutsOf m r (ts.take (k + 1)) (l.take j ++ [b] ++ l.drop j)) := by
                show CutsOf _ _ _ _
                rw [HTK.out, ← HBE.out]
                exact HTKE.out.put (by rw [HBE.out]; exact hle) j hj (fun x hx h => by rw [HBE.out]; exact hall.out x hx h) (fun h9 => by omega)
              have HT0 : Hid (∀ X, Below wr.heap.size wr X → RowAt X (.slice a j c) 1 j (inC (l.take j))) := fun X hX => by
                have h9 := InAt.take (RowAt.below hat.out hX) j hj
                unfold InAt at h9
                rw [List.length_take, Nat.min_eq_left hj] at h9
                exact h9
              have hcj : (j : Int) ≤ (c : Int) := by omega
              have hzero : l.length - j = 0 := by omega
              have hmx : (c : Int) ≤ 9223372036854775807 := by unfold maxLen at hcm; omega
              have HJE : Hid (j = l.length) := hje
              clear hje
              cases a with
              | none =>
                go_wp2_with (first
                  | (at_builtin; refine wpList_append_row appIn _ rfl _ _ rfl wr.heap.size (.slice (some ⟨wr.heap.size, 0, none⟩) 0 0) 0 [] rfl (row_empty wr _ _ (Nat.le_refl _)) _ j (inC (l.take j)) rfl (HT0.out _ ((Below.refl _ _).alloc (Nat.le_refl _) _)) (inC_one _) (by omega) (by simp) ?_; intro a5 c5 w5 hr5 hg5 _; rw [Nat.zero_add, List.nil_append] at hr5; rw [Nat.zero_add]; have hb5 : Below wr.heap.size wr w5 := ((Below.refl _ wr).alloc (Nat.le_refl _) _).grown hg5 (by simp) (fun i hi => by simp [Value.ownBlock] at hi; omega); have hs5 := hb5.size; have HB5 : Hid (Below wr.heap.size wr w5) := hb5; have HR5 : Hid (w5.ownsRow wr.heap.size 3 1 (.slice a5 j c5) j (inC (l.take j))) := hr5; clear hb5 hr5 hg5)
                  | (at_builtin; refine wpList_append_row appIn _ rfl _ _ rfl wr.heap.size (.slice a5 j c5) j (inC (l.take j)) rfl (World.ownsRow.alloc HR5.out _) _ 1 [.int .i64 b] rfl (RowAt.of_block (cs := #[.int .i64 b]) (heap_alloc_new w5 _) rfl (by decide)) (by simp [Value.oneCell']) (by omega) (by simp; omega) ?_; intro a6 c6 w6 hr6 hg6 _; have hb6 : Below wr.heap.size wr w6 := (HB5.out.alloc hs5 _).grown hg6 (by simp; omega) (fun i hi => (World.ownsRow.lt HR5.out i hi).1); have hs6 := hb6.size; have HB6 : Hid (Below wr.heap.size wr w6) := hb6; have HR6 : Hid (w6.ownsRow wr.heap.size 3 1 (.slice a6 (j + 1) c6) (j + 1) (inC (l.take j) ++ [.int .i64 b])) := hr6; clear hb6 hr6 hg6)
                  | (at_builtin; refine wpList_append_row appIn _ rfl _ _ rfl wr.heap.size (.slice a6 (j + 1) c6) (j + 1) (inC (l.take j) ++ [.int .i64 b]) rfl HR6.out _ 0 [] rfl (RowAt.empty _ _ (by omega)) (by simp) (by omega) hs6 ?_; intro a7 c7 w7 hr7 hg7 _; have hb7 : Below wr.heap.size wr w7 := HB6.out.grown hg7 hs6 (fun i hi => (World.ownsRow.lt HR6.out i hi).1); have HB7 : Hid (Below wr.heap.size wr w7) := hb7; have HR7 : Hid (w7.ownsRow wr.heap.size 3 1 (.slice a7 (j + 1) c7) (j + 1) (inC (l.take j) ++ [.int .i64 b])) := (by have hr8 := hr7; rw [Nat.add_zero, List.append_nil] at hr8; exact hr8); clear hb7 hr7 hg7))
                have hnl : (l.take j ++ [b] ++ l.drop j).length = j + 1 := by simp; have := HJE.out; omega
                have hdr : l.drop j = [] := List.drop_of_length_le (by have := HJE.out; omega)
                refine ⟨⟨k + 1, l.take j ++ [b] ++ l.drop j, a7, c7, by omega, by go_num, by rw [hnl], ⟨HPUT.out, by rw [hnl]; have := HJE.out; omega⟩, ?_, hbel.out.trans (HB7.out.mono hsw)⟩, by simp [intOf]; omega⟩
                show InAt _ _ _
                unfold InAt
                rw [hnl, hdr, List.append_nil, inC_append]
                exact RowAt.of_row HR7.out
              | some ad =>
                go_wp2_with (first
                  | (at_builtin; refine wpList_append_row appIn _ rfl _ _ rfl wr.heap.size (.slice (some ⟨wr.heap.size, 0, none⟩) 0 0) 0 [] rfl (row_empty wr _ _ (Nat.le_refl _)) _ j (inC (l.take j)) rfl (HT0.out _ ((Below.refl _ _).alloc (Nat.le_refl _) _)) (inC_one _) (by omega) (by simp) ?_; intro a5 c5 w5 hr5 hg5 _; rw [Nat.zero_add, List.nil_append] at hr5; rw [Nat.zero_add]; have hb5 : Below wr.heap.size wr w5 := ((Below.refl _ wr).alloc (Nat.le_refl _) _).grown hg5 (by simp) (fun i hi => by simp [Value.ownBlock] at hi; omega); have hs5 := hb5.size; have HB5 : Hid (Below wr.heap.size wr w5) := hb5; have HR5 : Hid (w5.ownsRow wr.heap.size 3 1 (.slice a5 j c5) j (inC (l.take j))) := hr5; clear hb5 hr5 hg5)
                  | (at_builtin; refine wpList_append_row appIn _ rfl _ _ rfl wr.heap.size (.slice a5 j c5) j (inC (l.take j)) rfl (World.ownsRow.alloc HR5.out _) _ 1 [.int .i64 b] rfl (RowAt.of_block (cs := #[.int .i64 b]) (heap_alloc_new w5 _) rfl (by decide)) (by simp [Value.oneCell']) (by omega) (by simp; omega) ?_; intro a6 c6 w6 hr6 hg6 _; have hb6 : Below wr.heap.size wr w6 := (HB5.out.alloc hs5 _).grown hg6 (by simp; omega) (fun i hi => (World.ownsRow.lt HR5.out i hi).1); have hs6 := hb6.size; have HB6 : Hid (Below wr.heap.size wr w6) := hb6; have HR6 : Hid (w6.ownsRow wr.heap.size 3 1 (.slice a6 (j + 1) c6) (j + 1) (inC (l.take j) ++ [.int .i64 b])) := hr6; clear hb6 hr6 hg6)
                  | (at_builtin; refine wpList_append_row appIn _ rfl _ _ rfl wr.heap.size (.slice a6 (j + 1) c6) (j + 1) (inC (l.take j) ++ [.int .i64 b]) rfl HR6.out _ 0 [] rfl (RowAt.empty _ _ (by omega)) (by simp) (by omega) hs6 ?_; intro a7 c7 w7 hr7 hg7 _; have hb7 : Below wr.heap.size wr w7 := HB6.out.grown hg7 hs6 (fun i hi => (World.ownsRow.lt HR6.out i hi).1); have HB7 : Hid (Below wr.heap.size wr w7) := hb7; have HR7 : Hid (w7.ownsRow wr.heap.size 3 1 (.slice a7 (j + 1) c7) (j + 1) (inC (l.take j) ++ [.int .i64 b])) := (by have hr8 := hr7; rw [Nat.add_zero, List.append_nil] at hr8; exact hr8); clear hb7 hr7 hg7))
                have hnl : (l.take j ++ [b] ++ l.drop j).length = j + 1 := by simp; have := HJE.out; omega
                have hdr : l.drop j = [] := List.drop_of_length_le (by have := HJE.out; omega)
                refine ⟨⟨k + 1, l.take j ++ [b] ++ l.drop j, a7, c7, by omega, by go_num, by rw [hnl], ⟨HPUT.out, by rw [hnl]; have := HJE.out; omega⟩, ?_, hbel.out.trans (HB7.out.mono hsw)⟩, by simp [intOf]; omega⟩
                show InAt _ _ _
                unfold InAt
                rw [hnl, hdr, List.append_nil, inC_append]
                exact RowAt.of_row HR7.out
        · have HSK : Hid (CutsOf m r (ts.take (k + 1)) l) := by show CutsOf _ _ _ _; rw [HTK.out]; exact hcut.out.1.skip (by rw [HBE.out]; exact hle)
          go_wp2_with (go_at_call 9; refine (hfl1 _).mono ?_; clear hfl1; rintro e w1 ⟨rfl, e8⟩; have e8 := e8.symm; subst e8)
          go_roundw
          case rel => exact ⟨k + 1, l, a, c, by omega, by go_num, rfl, ⟨HSK.out, by omega⟩, hat, hbel⟩
          case measure => simp [intOf]; omega
      · have hkl : ¬ (k : Int) < (ts.length : Int) := by omega
        have HE : Hid (l = cutsF ts newest width) := HCE.out l (by have h9 := hcut.out.1; rw [List.take_of_length_le (by omega)] at h9; exact h9)
        go_wp2
        go_ret
        exact ⟨_, rfl, by rw [← HE.out]; exact hat.out, hbel.out⟩

end Go.Proofs.Ytdmkfogohacaiaa
