/- The model's ReadDeed, JournalText and ReadJournal. No conditions but those typed. -/
import Derived.Test.YtpdnakiilhohdaaDoorDeedS
namespace Go.Proofs.YtpdnakiilhohdaaDoor
open Go.RowKit Go.Sort

def GivesDS (a : Sp × Int) (b : Bool) (w : World) (e : Ending) (w' : World) : Prop := e = .returned (.tuple #[.agg #[.int .i64 a.1.1, .int .i64 a.1.2, .int .i64 a.2], .bool b]) ∧ Below w.heap.size w w'
theorem deedS_is {k x y : Int} {s : Bs} {w : World} (h : deedT ((k, x), y) = s) : Calls Tryd.prog 12 #[.agg #[.int .i64 k, .int .i64 x, .int .i64 y]] w (Gives (strV s) w) := by
  subst h; exact specDeedT_any k x y w
/-- candidates that are no match -/
def NoneUpto (s : Bs) (l : List (Sp × Int)) (j : Nat) : Prop := ∀ (i : Nat) (a : Sp × Int), i < j → l[i]? = some a → ¬ (s ≠ [] ∧ deedT a = s)
theorem NoneUpto.next {s : Bs} {l : List (Sp × Int)} {j : Nat} {a : Sp × Int} (h : NoneUpto s l j) (ha : l[j]? = some a) (hb : ¬ (s ≠ [] ∧ deedT a = s)) : NoneUpto s l (j + 1) := fun i b hi hb' => by
  by_cases e : i = j
  · subst e; rw [ha] at hb'; cases hb'; exact hb
  · exact h i b (by omega) hb'
theorem NoneUpto.all {s : Bs} (h : NoneUpto s (candD s) (candD s).length) : readDR s = ((0, 0), 0) ∧ readDOk s = false := by
  by_cases hs : s = []
  · subst hs; exact readD_nil
  · refine cand_miss fun a ha e => ?_
    obtain ⟨i, hi⟩ := List.mem_iff_getElem?.1 ha
    exact h i a (List.getElem?_eq_some_iff.1 hi).1 hi ⟨hs, e⟩
/-- the candidates as they are put together -/
theorem candD_len (s : Bs) : (candD s).length ≤ 9 := by
  unfold candD
  split <;> split <;> simp [candB, cand3, cand2]
structure Cands (s : Bs) (l3 l2 : List (Sp × Int)) : Prop where
  is : candD s = candB ++ (l3 ++ l2)
  three : (cutB 32 s).length = 3 → l3 = cand3 (digR ((cutB 32 s).getD 1 [])).1 (digR ((cutB 32 s).getD 2 [])).1
  not3 : (cutB 32 s).length ≠ 3 → l3 = []
  two : (cutB 32 s).length = 2 → l2 = cand2 (digR ((cutB 32 s).getD 1 [])).1
  not2 : (cutB 32 s).length ≠ 2 → l2 = []
theorem cands_of (s : Bs) : ∃ l3 l2, Cands s l3 l2 := by
  refine ⟨_, _, rfl, ?_, ?_, ?_, ?_⟩
  all_goals
    generalize cutB 32 s = c
    intro h
    match c, h with
    | [], h => first | rfl | (simp at h)
    | [_], h => first | rfl | (simp at h)
    | [_, _], h => first | rfl | (simp at h)
    | [_, _, _], h => first | rfl | (simp at h)
    | _ :: _ :: _ :: _ :: _, h => first | rfl | (simp at h)
theorem digS_is {l : Bs} {n : Int} (h1 : (digR l).1 = n) (hl : l.length ≤ 1000000000) (w : World) : Calls Tryd.prog 45 #[.string (bs l)] w fun e w' => ∃ b : Bool, e = .returned (.tuple #[.int .i64 n, .bool b]) ∧ Below w.heap.size w w' := by
  subst h1
  refine (specDigits_any l hl w).mono ?_
  rintro e w' ⟨h, hb⟩
  exact ⟨_, h, hb⟩
theorem cutB_le (c : UInt8) : ∀ (l : Bs), ∀ m ∈ cutB c l, m.length ≤ l.length
  | [], m, h => by
    have : m = [] := by simpa [cutB] using h
    subst this; exact Nat.le_refl _
  | b :: l, m, h => by
    have ih := cutB_le c l
    unfold cutB at h
    split at h
    · rcases List.mem_cons.1 h with rfl | h
      · exact Nat.zero_le _
      · have := ih m h; simp only [List.length_cons]; omega
    · split at h
      · rename_i x r e
        rw [e] at ih
        rcases List.mem_cons.1 h with rfl | h
        · have := ih x (List.mem_cons_self ..); simp only [List.length_cons]; omega
        · have := ih m (List.mem_cons_of_mem _ h); simp only [List.length_cons]; omega
      · have : m = [b] := by simpa using h
        subst this; simp
theorem cand3_at (x y : Int) {j : Nat} (h : j < 3) : (candB ++ (cand3 x y).take j) ++ [(((j : Int), x), y)] = candB ++ (cand3 x y).take (j + 1) := by
  rcases (by omega : j = 0 ∨ j = 1 ∨ j = 2) with rfl | rfl | rfl <;> rfl
theorem cand2_at (x : Int) {j : Nat} {z : Int} (h : j < 3) (hz : z = 4 + (j : Int)) : (candB ++ (cand2 x).take j) ++ [((z, x), 0)] = candB ++ (cand2 x).take (j + 1) := by
  subst hz
  rcases (by omega : j = 0 ∨ j = 1 ∨ j = 2) with rfl | rfl | rfl <;> rfl
/-- what stands when the candidates are asked -/
structure RdIn (s : Bs) (w w1 wr : World) (r : Nat) (v : Value) (l : List (Sp × Int)) : Prop where
  own : COwns wr w1.heap.size v l
  bb : Below w1.heap.size w1 wr
theorem frozen3_s {w : World} {g : Nat} {a b c : Value} {T : TypeId} (h : w.heap[g]? = some (.cells #[a, b, c] T (0, 0))) : w.frozen? ⟨g, 0, none⟩ = false ∧ w.frozen? ⟨g, 1, none⟩ = false ∧ w.frozen? ⟨g, 2, none⟩ = false :=
  ⟨frozen_of_row w _ 0 _ _ h, frozen_of_row w _ 1 _ _ h, frozen_of_row w _ 2 _ _ h⟩
theorem below_set3 {w w' : World} {r : Nat} (h : Below w.heap.size w w') (hr : w.heap.size ≤ r) (a b c : Value) : Below w.heap.size w (((w'.setCell ⟨r, 0, none⟩ a).setCell ⟨r, 1, none⟩ b).setCell ⟨r, 2, none⟩ c) :=
  ((h.setCell (p := ⟨r, 0, none⟩) hr _).setCell (p := ⟨r, 1, none⟩) hr _).setCell (p := ⟨r, 2, none⟩) hr _
set_option maxRecDepth 100000 in
set_option maxHeartbeats 3200000 in
theorem specReadD_any (s : Bs) (hl : s.length ≤ 100000000) (w : World) : Calls Tryd.prog 16 #[.string (bs s)] w (GivesDS (readDR s) (readDOk s) w) := by
  obtain ⟨W, hW⟩ : ∃ W, W = w.alloc (.cells #[.int .i64 0, .int .i64 0, .int .i64 0] 24) := ⟨_, rfl⟩
  have b0 : Below w.heap.size w W := by rw [hW]; exact box_below _ _ _
  have r0 : W.heap[w.heap.size]? = some (.cells #[.int .i64 0, .int .i64 0, .int .i64 0] 24 (0, 0)) := by rw [hW]; exact heap_alloc_new _ _
  have s0 : w.heap.size < W.heap.size := by rw [hW]; simp
  obtain ⟨R, hR⟩ : ∃ R, readDR s = R := ⟨_, rfl⟩
  obtain ⟨OK, hOK⟩ : ∃ OK, readDOk s = OK := ⟨_, rfl⟩
  have HR := Lib.hid hR
  have HK := Lib.hid hOK
  rw [hR, hOK]
  obtain ⟨⟨Rk, Rx⟩, Ry⟩ := R
  have hst : (bs s).toList = s := ByteArray.toList_mk s
  obtain ⟨l3, l2, C⟩ := cands_of s
  have hcl := cutB_le 32 s
  have hcn := cutB_length 32 s
  clear hR hOK
  go_enter Tryd.func16, Tryd.ntmps16
  go_wp2_with (first | (rw [← hW]; clear hW) | fail)
  refine (specCut_any s 32 W (by omega)).mono ?_
  rintro e w1 ⟨v1, rfl, o1, b01⟩
  obtain ⟨A1, c1, rfl, hc1, hm1, hg1⟩ := o1.shape
  have r1 := (b01.block _ s0).trans r0
  have b1 := below_step b0 b01
  have sr : w.heap.size < w1.heap.size := (Array.getElem?_eq_some_iff.1 r1).1
  have s1 := b1.size
  unfold maxLen at hm1
  have hlen : (strZ (cutB 32 s)).length = (cutB 32 s).length := by unfold strZ; rw [List.length_map]
  obtain ⟨n, hn⟩ : ∃ n, (cutB 32 s).length = n := ⟨_, rfl⟩
  rw [hlen, hn] at hc1 hg1 ⊢
  rw [hn] at hcn
  clear r0 b0 b01 hlen
  obtain ⟨W2, hW2⟩ : ∃ W2, W2 = w1.alloc (.cells #[.int .i64 3, .int .i64 0, .int .i64 0, .int .i64 7, .int .i64 0, .int .i64 0, .int .i64 8, .int .i64 0, .int .i64 0] 24) := ⟨_, rfl⟩
  have o2 : COwns W2 w1.heap.size (.slice (some ⟨w1.heap.size, 0, none⟩) 3 3) candB := by rw [hW2]; exact World.ownsRow_lit w1 #[.int .i64 3, .int .i64 0, .int .i64 0, .int .i64 7, .int .i64 0, .int .i64 0, .int .i64 8, .int .i64 0, .int .i64 0] 3 (Nat.le_refl _) (by simp [maxLen]) rfl
  have b2 : Below w1.heap.size w1 W2 := by rw [hW2]; exact box_below _ _ _
  by_cases h3 : n = 3
  · subst h3
    obtain ⟨g, rfl, hg, hgl⟩ := hg1 (by omega)
    obtain ⟨p0, p1, p2, hp⟩ : ∃ a b c, cutB 32 s = [a, b, c] := by
      match e : cutB 32 s, hn with
      | [a, b, c], _ => exact ⟨a, b, c, rfl⟩
    have e3 := C.three hn
    have e2 := C.not2 (by omega)
    have eC := C.is
    rw [hp] at e3
    simp only [List.getD_cons_succ, List.getD_cons_zero] at e3
    obtain ⟨x, hx⟩ : ∃ x, (digR p1).1 = x := ⟨_, rfl⟩
    obtain ⟨y, hy⟩ : ∃ y, (digR p2).1 = y := ⟨_, rfl⟩
    rw [hx, hy] at e3
    rw [e3, e2, List.append_nil] at eC
    have l1 : p1.length ≤ 1000000000 := by have := hcl p1 (by rw [hp]; simp); omega
    have l2' : p2.length ≤ 1000000000 := by have := hcl p2 (by rw [hp]; simp); omega
    have k1 : w1.cell? ⟨g, 1, none⟩ = some (.string (bs p1)) := by rw [o1.cell (k := 1) (by unfold strZ; rw [List.length_map]; omega), hp]; rfl
    have k2 : w1.cell? ⟨g, 2, none⟩ = some (.string (bs p2)) := by rw [o1.cell (k := 2) (by unfold strZ; rw [List.length_map]; omega), hp]; rfl
    have HX := Lib.hid hx
    have HY := Lib.hid hy
    have HC := Lib.hid eC
    clear hx hy eC e3 e2 C hcl hp hn o1 hg1
    go_wp2_with (first | (rw [← hW2]; clear hW2) | fail)
    go_loopw [5, 6] (fun v i wr => ∃ j : Nat, j ≤ 3 ∧ i = .int .i64 j ∧ COwns wr w1.heap.size v (candB ++ (cand3 x y).take j) ∧ Below w1.heap.size w1 wr) (fun _ i _ => 3 - (intOf i).toNat)
    case atStart => exact ⟨0, by omega, rfl, o2, b2⟩
    case round =>
      clear o2 b2
      obtain ⟨j, hj, rfl, hown, hbw⟩ := hrel
      by_cases hlt : j < 3
      · have d1 := (hbw.cell (p := ⟨g, 1, none⟩) hgl).trans k1
        have hle : (j : Int) ≤ 2 := by omega
        go_wp2_with fail
        refine (digS_is HX.out l1 _).mono ?_
        rintro e w3 ⟨z3, rfl, b3⟩
        have bb3 := below_step hbw b3
        clear d1
        have d2 := (bb3.cell (p := ⟨g, 2, none⟩) hgl).trans k2
        go_wp2_with fail
        refine (digS_is HY.out l2' _).mono ?_
        rintro e w4 ⟨z4, rfl, b4⟩
        have bb4 := below_step bb3 b4
        have own4 := ((hown.below b3).below b4).below (box_below w4 #[.int .i64 (j : Int), .int .i64 x, .int .i64 y] 24)
        have bbY := below_step bb4 (box_below w4 #[.int .i64 (j : Int), .int .i64 x, .int .i64 y] 24)
        clear d2 hown
        go_wp2_with (first | (at_builtin; refine wpList_append_cents (m := [(((j : Int), x), y)]) own4 (CReads.one (g := w4.heap.size) (by simp [go_sem]) (by simp [go_sem]) (by simp [go_sem])) (by simp only [candB, cand3, List.length_append, List.length_take, List.length_cons, List.length_nil]; omega) bbY.size rfl (.tmp 44) (.tmp 49) rfl rfl rfl ?_) | fail)
        intro v7 w7 o7 g7 hv7
        rw [← List.append_assoc, cand3_at x y hlt] at o7
        have b7 := own4.below_app bbY bbY.size g7
        clear own4 g7 hv7
        go_wp2
        go_roundw
        case rel => exact ⟨j + 1, by omega, by go_num, o7, b7⟩
        case measure => simp [intOf]; omega
      · have hj3 : j = 3 := by omega
        have own : COwns wr w1.heap.size u5 (candD s) := by rw [HC.out]; rw [hj3] at hown; exact hown
        have hnle : ¬ ((j : Int) ≤ 2) := by omega
        have bx := hbw
        obtain ⟨L, hL⟩ : ∃ L, candD s = L := ⟨_, rfl⟩
        have hLl := candD_len s
        rw [hL] at own hLl
        replace HC := Lib.hid hL
        clear hL hown hbw hj3 hlt hj
        go_wp2
        refine wp_loop_rounds 1 ?_
        rw [rounds_succ]
        go_wp2
        generalize wr = wx at *
        obtain ⟨A5, c5, e5a, h5, h5m⟩ := own.reads.slice
        cases e5a
        have hrd := own.reads.is
        obtain ⟨A5', c5', e5, _, _, _, hcell⟩ := hrd
        cases e5
        unfold maxLen at h5m
        go_loopw [14] (fun i wr => ∃ j : Nat, j ≤ L.length ∧ i = .int .i64 j ∧ NoneUpto s L j ∧ Below (wx).heap.size wx wr) (fun i _ => L.length - (intOf i).toNat)
        case atStart => exact ⟨0, Nat.zero_le _, rfl, fun i a hi => by omega, Below.refl _ _⟩
        case round =>
          obtain ⟨j, hj, rfl, hI, hbw⟩ := hrel
          have HI := Lib.hid hI
          clear hI
          have bq := below_step bx hbw
          by_cases hlt : j < L.length
          · obtain ⟨⟨⟨k, x⟩, y⟩, hxy⟩ : ∃ a, L[j]? = some a := ⟨_, List.getElem?_eq_getElem hlt⟩
            obtain ⟨b, off, e6a, hb, hat⟩ := hcell (by omega)
            cases e6a
            obtain ⟨a0, a1, a2⟩ := hat j k x y hxy
            have d0 := Eq.trans (hbw.cell (by exact hb)) a0
            have d1 := Eq.trans (hbw.cell (by exact hb)) a1
            have d2 := Eq.trans (hbw.cell (by exact hb)) a2
            try simp only [Nat.zero_add] at d0 d1 d2
            have hm3 : (0 : Int) ≤ (j : Int) := Int.natCast_nonneg _
            have hm4 : (j : Int) < (L.length : Int) := by omega
            have HXY := Lib.hid hxy
            clear hxy
            rcases hs : (s == []) with _ | _
            · have Hs := Lib.hid (beq_eq_false_iff_ne.1 hs)
              obtain ⟨T, hT⟩ : ∃ T, deedT ((k, x), y) = T := ⟨_, rfl⟩
              have HT := Lib.hid hT
              have hTt : (bs T).toList = T := ByteArray.toList_mk T
              clear hT
              rcases hq : (T == s) with _ | _
              · have HQ := Lib.hid (beq_eq_false_iff_ne.1 hq)
                go_wp2_with fail
                refine (deedS_is HT.out).mono ?_
                rintro e w4 ⟨rfl, b4⟩
                go_wp2
                go_roundw
                case rel => exact ⟨j + 1, by omega, by go_num, HI.out.next HXY.out (fun h => HQ.out (HT.out.symm.trans h.2)), below_step hbw b4⟩
                case measure => simp [intOf]; omega
              · have hyes := cand_hit (s := s) Hs.out (HT.out.trans (beq_iff_eq.1 hq))
                rw [HR.out, HK.out] at hyes
                obtain ⟨e1, e2⟩ := hyes
                cases e1
                subst e2
                go_wp2_with fail
                refine (deedS_is HT.out).mono ?_
                rintro e w4 ⟨rfl, b4⟩
                have b5 := below_step hbw b4
                clear d0 d1 d2
                have d0 := Eq.trans (b5.cell (by exact hb)) a0
                have d1 := Eq.trans (b5.cell (by exact hb)) a1
                have d2 := Eq.trans (b5.cell (by exact hb)) a2
                try simp only [Nat.zero_add] at d0 d1 d2
                have b6 := below_step bx b5
                have r4 := ((b6).block _ sr).trans r1
                obtain ⟨f0, f1, f2⟩ := frozen3_s r4
                obtain ⟨z0, z1, z2⟩ := cells3_s r4
                have bE := below_step b1 b6
                go_wp2
                refine bodyPost_ret (v := .tuple #[.agg #[.int .i64 Rk, .int .i64 Rx, .int .i64 Ry], .bool true]) (by simp [results, Tryd.results16, go_sem, *]) rfl ⟨rfl, below_set3 bE (Nat.le_refl _) _ _ _⟩
            · have HS := Lib.hid (beq_iff_eq.1 hs)
              go_wp2
              go_roundw
              case rel => exact ⟨j + 1, by omega, by go_num, HI.out.next HXY.out (fun h => h.1 HS.out), hbw⟩
              case measure => simp [intOf]; omega
          · obtain rfl : j = L.length := by omega
            have hno : readDR s = ((0, 0), 0) ∧ readDOk s = false := by
              have h := HI.out
              rw [← HC.out] at h
              exact h.all
            rw [HR.out, HK.out] at hno
            obtain ⟨e1, e2⟩ := hno
            cases e1
            subst e2
            have r4 := ((bq).block _ sr).trans r1
            obtain ⟨f0, f1, f2⟩ := frozen3_s r4
            obtain ⟨z0, z1, z2⟩ := cells3_s r4
            have bE := below_step b1 bq
            go_wp2
            refine bodyPost_ret (v := .tuple #[.agg #[.int .i64 0, .int .i64 0, .int .i64 0], .bool false]) (by simp [results, Tryd.results16, go_sem, *]) rfl ⟨rfl, ?_⟩
            first | exact bE | exact below_set3 bE (Nat.le_refl _) _ _ _
  · have f3 : ((n : Int) == 3) = false := beq_eq_false_iff_ne.2 (by omega)
    by_cases h2 : n = 2
    · subst h2
      obtain ⟨g, rfl, hg, hgl⟩ := hg1 (by omega)
      obtain ⟨p0, p1, hp⟩ : ∃ a b, cutB 32 s = [a, b] := by
        match e : cutB 32 s, hn with
        | [a, b], _ => exact ⟨a, b, rfl⟩
      have e3 := C.not3 (by omega)
      have e2 := C.two hn
      have eC := C.is
      rw [hp] at e2
      simp only [List.getD_cons_succ, List.getD_cons_zero] at e2
      obtain ⟨x, hx⟩ : ∃ x, (digR p1).1 = x := ⟨_, rfl⟩
      rw [hx] at e2
      rw [e3, e2, List.nil_append] at eC
      have l1 : p1.length ≤ 1000000000 := by have := hcl p1 (by rw [hp]; simp); omega
      have k1 : w1.cell? ⟨g, 1, none⟩ = some (.string (bs p1)) := by rw [o1.cell (k := 1) (by unfold strZ; rw [List.length_map]; omega), hp]; rfl
      have HX := Lib.hid hx
      have HC := Lib.hid eC
      clear hx eC e3 e2 C hcl hp hn o1 hg1 h3
      go_wp2_with (first | (rw [← hW2]; clear hW2) | fail)
      refine wp_loop_rounds 1 ?_
      rw [rounds_succ]
      go_wp2_with (first | (rw [← hW2]; clear hW2) | fail)
      go_loopw [5, 11] (fun v i wr => ∃ (j : Nat) (z : Int), j ≤ 3 ∧ z = 4 + (j : Int) ∧ i = .int .i64 z ∧ COwns wr w1.heap.size v (candB ++ (cand2 x).take j) ∧ Below w1.heap.size w1 wr) (fun _ i _ => (7 - intOf i).toNat)
      case atStart => exact ⟨0, 4, by omega, rfl, rfl, o2, b2⟩
      case round =>
        clear o2 b2
        obtain ⟨j, z, hj, hz, rfl, hown, hbw⟩ := hrel
        have HZ := Lib.hid hz
        by_cases hlt : j < 3
        · have hle : z ≤ 6 := by omega
          have hz0 : 0 ≤ z := by omega
          clear hz
          have d1 := (hbw.cell (p := ⟨g, 1, none⟩) hgl).trans k1
          go_wp2_with fail
          refine (digS_is HX.out l1 _).mono ?_
          rintro e w3 ⟨z3, rfl, b3⟩
          have bb3 := below_step hbw b3
          have own4 := (hown.below b3).below (box_below w3 #[.int .i64 z, .int .i64 x, .int .i64 0] 24)
          have bbY := below_step bb3 (box_below w3 #[.int .i64 z, .int .i64 x, .int .i64 0] 24)
          clear d1 hown
          go_wp2_with (first | (at_builtin; refine wpList_append_cents (m := [((z, x), 0)]) own4 (CReads.one (g := w3.heap.size) (by simp [go_sem]) (by simp [go_sem]) (by simp [go_sem])) (by simp only [candB, cand2, List.length_append, List.length_take, List.length_cons, List.length_nil]; omega) bbY.size rfl (.tmp 67) (.tmp 71) rfl rfl rfl ?_) | fail)
          intro v7 w7 o7 g7 hv7
          rw [← List.append_assoc, cand2_at x hlt HZ.out] at o7
          have b7 := own4.below_app bbY bbY.size g7
          clear own4 g7 hv7
          go_wp2
          go_roundw
          case rel => exact ⟨j + 1, z + 1, by omega, by have := HZ.out; omega, by first | rfl | go_num, o7, b7⟩
          case measure => simp [intOf]; omega
        · have hj3 : j = 3 := by omega
          have own : COwns wr w1.heap.size u5 (candD s) := by rw [HC.out]; rw [hj3] at hown; exact hown
          have hnle : ¬ (z ≤ 6) := by omega
          have bx := hbw
          obtain ⟨L, hL⟩ : ∃ L, candD s = L := ⟨_, rfl⟩
          have hLl := candD_len s
          rw [hL] at own hLl
          replace HC := Lib.hid hL
          clear hL hown hbw hz hj3 hlt hj
          go_wp2
          generalize wr = wx at *
          obtain ⟨A5, c5, e5a, h5, h5m⟩ := own.reads.slice
          cases e5a
          have hrd := own.reads.is
          obtain ⟨A5', c5', e5, _, _, _, hcell⟩ := hrd
          cases e5
          unfold maxLen at h5m
          go_loopw [14] (fun i wr => ∃ j : Nat, j ≤ L.length ∧ i = .int .i64 j ∧ NoneUpto s L j ∧ Below (wx).heap.size wx wr) (fun i _ => L.length - (intOf i).toNat)
          case atStart => exact ⟨0, Nat.zero_le _, rfl, fun i a hi => by omega, Below.refl _ _⟩
          case round =>
            obtain ⟨j, hj, rfl, hI, hbw⟩ := hrel
            have HI := Lib.hid hI
            clear hI
            have bq := below_step bx hbw
            by_cases hlt : j < L.length
            · obtain ⟨⟨⟨k, x⟩, y⟩, hxy⟩ : ∃ a, L[j]? = some a := ⟨_, List.getElem?_eq_getElem hlt⟩
              obtain ⟨b, off, e6a, hb, hat⟩ := hcell (by omega)
              cases e6a
              obtain ⟨a0, a1, a2⟩ := hat j k x y hxy
              have d0 := Eq.trans (hbw.cell (by exact hb)) a0
              have d1 := Eq.trans (hbw.cell (by exact hb)) a1
              have d2 := Eq.trans (hbw.cell (by exact hb)) a2
              try simp only [Nat.zero_add] at d0 d1 d2
              have hm3 : (0 : Int) ≤ (j : Int) := Int.natCast_nonneg _
              have hm4 : (j : Int) < (L.length : Int) := by omega
              have HXY := Lib.hid hxy
              clear hxy
              rcases hs : (s == []) with _ | _
              · have Hs := Lib.hid (beq_eq_false_iff_ne.1 hs)
                obtain ⟨T, hT⟩ : ∃ T, deedT ((k, x), y) = T := ⟨_, rfl⟩
                have HT := Lib.hid hT
                have hTt : (bs T).toList = T := ByteArray.toList_mk T
                clear hT
                rcases hq : (T == s) with _ | _
                · have HQ := Lib.hid (beq_eq_false_iff_ne.1 hq)
                  go_wp2_with fail
                  refine (deedS_is HT.out).mono ?_
                  rintro e w4 ⟨rfl, b4⟩
                  go_wp2
                  go_roundw
                  case rel => exact ⟨j + 1, by omega, by go_num, HI.out.next HXY.out (fun h => HQ.out (HT.out.symm.trans h.2)), below_step hbw b4⟩
                  case measure => simp [intOf]; omega
                · have hyes := cand_hit (s := s) Hs.out (HT.out.trans (beq_iff_eq.1 hq))
                  rw [HR.out, HK.out] at hyes
                  obtain ⟨e1, e2⟩ := hyes
                  cases e1
                  subst e2
                  go_wp2_with fail
                  refine (deedS_is HT.out).mono ?_
                  rintro e w4 ⟨rfl, b4⟩
                  have b5 := below_step hbw b4
                  clear d0 d1 d2
                  have d0 := Eq.trans (b5.cell (by exact hb)) a0
                  have d1 := Eq.trans (b5.cell (by exact hb)) a1
                  have d2 := Eq.trans (b5.cell (by exact hb)) a2
                  try simp only [Nat.zero_add] at d0 d1 d2
                  have b6 := below_step bx b5
                  have r4 := ((b6).block _ sr).trans r1
                  obtain ⟨f0, f1, f2⟩ := frozen3_s r4
                  obtain ⟨z0, z1, z2⟩ := cells3_s r4
                  have bE := below_step b1 b6
                  go_wp2
                  refine bodyPost_ret (v := .tuple #[.agg #[.int .i64 Rk, .int .i64 Rx, .int .i64 Ry], .bool true]) (by simp [results, Tryd.results16, go_sem, *]) rfl ⟨rfl, below_set3 bE (Nat.le_refl _) _ _ _⟩
              · have HS := Lib.hid (beq_iff_eq.1 hs)
                go_wp2
                go_roundw
                case rel => exact ⟨j + 1, by omega, by go_num, HI.out.next HXY.out (fun h => h.1 HS.out), hbw⟩
                case measure => simp [intOf]; omega
            · obtain rfl : j = L.length := by omega
              have hno : readDR s = ((0, 0), 0) ∧ readDOk s = false := by
                have h := HI.out
                rw [← HC.out] at h
                exact h.all
              rw [HR.out, HK.out] at hno
              obtain ⟨e1, e2⟩ := hno
              cases e1
              subst e2
              have r4 := ((bq).block _ sr).trans r1
              obtain ⟨f0, f1, f2⟩ := frozen3_s r4
              obtain ⟨z0, z1, z2⟩ := cells3_s r4
              have bE := below_step b1 bq
              go_wp2
              refine bodyPost_ret (v := .tuple #[.agg #[.int .i64 0, .int .i64 0, .int .i64 0], .bool false]) (by simp [results, Tryd.results16, go_sem, *]) rfl ⟨rfl, ?_⟩
              first | exact bE | exact below_set3 bE (Nat.le_refl _) _ _ _
    · have f2 : ((n : Int) == 2) = false := beq_eq_false_iff_ne.2 (by omega)
      have e3 := C.not3 (by omega)
      have e2 := C.not2 (by omega)
      have eC := C.is
      rw [e3, e2, List.append_nil, List.append_nil] at eC
      have HC := Lib.hid eC
      clear eC e3 e2 C hcl hn o1 hg1 h3 h2
      have own : COwns W2 w1.heap.size (.slice (some ⟨w1.heap.size, 0, none⟩) 3 3) (candD s) := by rw [HC.out]; exact o2
      have bx := b2
      obtain ⟨L, hL⟩ : ∃ L, candD s = L := ⟨_, rfl⟩
      have hLl : L.length = 3 := by rw [← hL, HC.out]; rfl
      rw [hL] at own
      replace HC := Lib.hid hL
      clear hL o2 b2
      go_wp2_with (first | (rw [← hW2]; clear hW2) | fail)
      refine wp_loop_rounds 1 ?_
      rw [rounds_succ]
      go_wp2
      refine wp_loop_rounds 1 ?_
      rw [rounds_succ]
      go_wp2
      generalize W2 = wx at *
      have hv : Value.slice (some ⟨w1.heap.size, 0, none⟩) 3 3 = Value.slice (some ⟨w1.heap.size, 0, none⟩) L.length 3 := by rw [hLl]
      rw [hv] at own ⊢
      clear hv hLl
      obtain ⟨A5, c5, e5a, h5, h5m⟩ := own.reads.slice
      cases e5a
      have hrd := own.reads.is
      obtain ⟨A5', c5', e5, _, _, _, hcell⟩ := hrd
      cases e5
      unfold maxLen at h5m
      go_loopw [14] (fun i wr => ∃ j : Nat, j ≤ L.length ∧ i = .int .i64 j ∧ NoneUpto s L j ∧ Below (wx).heap.size wx wr) (fun i _ => L.length - (intOf i).toNat)
      case atStart => exact ⟨0, Nat.zero_le _, rfl, fun i a hi => by omega, Below.refl _ _⟩
      case round =>
        obtain ⟨j, hj, rfl, hI, hbw⟩ := hrel
        have HI := Lib.hid hI
        clear hI
        have bq := below_step bx hbw
        by_cases hlt : j < L.length
        · obtain ⟨⟨⟨k, x⟩, y⟩, hxy⟩ : ∃ a, L[j]? = some a := ⟨_, List.getElem?_eq_getElem hlt⟩
          obtain ⟨b, off, e6a, hb, hat⟩ := hcell (by omega)
          cases e6a
          obtain ⟨a0, a1, a2⟩ := hat j k x y hxy
          have d0 := Eq.trans (hbw.cell (by exact hb)) a0
          have d1 := Eq.trans (hbw.cell (by exact hb)) a1
          have d2 := Eq.trans (hbw.cell (by exact hb)) a2
          try simp only [Nat.zero_add] at d0 d1 d2
          have hm3 : (0 : Int) ≤ (j : Int) := Int.natCast_nonneg _
          have hm4 : (j : Int) < (L.length : Int) := by omega
          have HXY := Lib.hid hxy
          clear hxy
          rcases hs : (s == []) with _ | _
          · have Hs := Lib.hid (beq_eq_false_iff_ne.1 hs)
            obtain ⟨T, hT⟩ : ∃ T, deedT ((k, x), y) = T := ⟨_, rfl⟩
            have HT := Lib.hid hT
            have hTt : (bs T).toList = T := ByteArray.toList_mk T
            clear hT
            rcases hq : (T == s) with _ | _
            · have HQ := Lib.hid (beq_eq_false_iff_ne.1 hq)
              go_wp2_with fail
              refine (deedS_is HT.out).mono ?_
              rintro e w4 ⟨rfl, b4⟩
              go_wp2
              go_roundw
              case rel => exact ⟨j + 1, by omega, by go_num, HI.out.next HXY.out (fun h => HQ.out (HT.out.symm.trans h.2)), below_step hbw b4⟩
              case measure => simp [intOf]; omega
            · have hyes := cand_hit (s := s) Hs.out (HT.out.trans (beq_iff_eq.1 hq))
              rw [HR.out, HK.out] at hyes
              obtain ⟨e1, e2⟩ := hyes
              cases e1
              subst e2
              go_wp2_with fail
              refine (deedS_is HT.out).mono ?_
              rintro e w4 ⟨rfl, b4⟩
              have b5 := below_step hbw b4
              clear d0 d1 d2
              have d0 := Eq.trans (b5.cell (by exact hb)) a0
              have d1 := Eq.trans (b5.cell (by exact hb)) a1
              have d2 := Eq.trans (b5.cell (by exact hb)) a2
              try simp only [Nat.zero_add] at d0 d1 d2
              have b6 := below_step bx b5
              have r4 := ((b6).block _ sr).trans r1
              obtain ⟨f0, f1, f2⟩ := frozen3_s r4
              obtain ⟨z0, z1, z2⟩ := cells3_s r4
              have bE := below_step b1 b6
              go_wp2
              refine bodyPost_ret (v := .tuple #[.agg #[.int .i64 Rk, .int .i64 Rx, .int .i64 Ry], .bool true]) (by simp [results, Tryd.results16, go_sem, *]) rfl ⟨rfl, below_set3 bE (Nat.le_refl _) _ _ _⟩
          · have HS := Lib.hid (beq_iff_eq.1 hs)
            go_wp2
            go_roundw
            case rel => exact ⟨j + 1, by omega, by go_num, HI.out.next HXY.out (fun h => h.1 HS.out), hbw⟩
            case measure => simp [intOf]; omega
        · obtain rfl : j = L.length := by omega
          have hno : readDR s = ((0, 0), 0) ∧ readDOk s = false := by
            have h := HI.out
            rw [← HC.out] at h
            exact h.all
          rw [HR.out, HK.out] at hno
          obtain ⟨e1, e2⟩ := hno
          cases e1
          subst e2
          have r4 := ((bq).block _ sr).trans r1
          obtain ⟨f0, f1, f2⟩ := frozen3_s r4
          obtain ⟨z0, z1, z2⟩ := cells3_s r4
          have bE := below_step b1 bq
          go_wp2
          refine bodyPost_ret (v := .tuple #[.agg #[.int .i64 0, .int .i64 0, .int .i64 0], .bool false]) (by simp [results, Tryd.results16, go_sem, *]) rfl ⟨rfl, ?_⟩
          first | exact bE | exact below_set3 bE (Nat.le_refl _) _ _ _
end Go.Proofs.YtpdnakiilhohdaaDoor
