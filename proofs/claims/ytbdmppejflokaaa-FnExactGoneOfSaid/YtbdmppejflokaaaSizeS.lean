/- The model's SizesOf, GoneOf and SideAt. No conditions but those typed. -/
import Derived.Test.YtbdmppejflokaaaSieveS
import Derived.Test.YtbdmppejflokaaaSizeI
namespace Go.Proofs.Ytbdmppejflokaaa
open Go.RowKit Go.Sort

theorem sizesR_yes {ps : List Sp} (h : picB ps = true) : sizesR ps = sizesUpto ps 5 := by unfold sizesR; rw [h]; rfl
theorem sizesR_no {ps : List Sp} (h : picB ps = false) : sizesR ps = [] := by unfold sizesR; rw [h]; rfl
theorem goneR_yes {ps : List Sp} (h : picB ps = true) : goneR ps = goneUpto ps 5 := by unfold goneR; rw [h]; rfl
theorem goneR_no {ps : List Sp} (h : picB ps = false) : goneR ps = [] := by unfold goneR; rw [h]; rfl
theorem intsZ_len {ps : List Sp} (k : Nat) : (intsZ (sizesUpto ps k)).length = k := by rw [intsZ_length, length_sizesUpto]

set_option maxRecDepth 100000 in
set_option maxHeartbeats 1600000 in
theorem specSizes_any (ps : List Sp) (v : Value) (w : World) (h : Reads w w.heap.size v ps) : Calls Try.prog 26 #[v] w (GivesInts (sizesR ps) w) := by
  obtain ⟨A, c, rfl, hc, hm⟩ := h.slice
  have b0 : Below w.heap.size w (w.alloc (.cells #[] 3)) := (Below.refl _ _).alloc (Nat.le_refl _) _
  rcases hp : picB ps with _ | _
  · have HZ := Lib.hid (sizesR_no hp)
    have ho1 := sieveOk_nopic hp 1
    clear hp
    go_enter Try.func26, Try.ntmps26
    go_wp2
    go_loopw [3, 4] (fun _ i wr => i = .int .i64 1 ∧ Below w.heap.size w wr) (fun _ _ _ => 0)
    case atStart => exact ⟨rfl, b0⟩
    case round =>
      obtain ⟨rfl, hbw⟩ := hrel
      go_wp2_with fail
      refine (specSieved_any ps _ 1 wr (h.kept hbw)).mono ?_
      rintro e w1 ⟨v1, rfl, o1, b1⟩
      rw [ho1]
      clear ho1
      have hbw1 := below_step hbw b1
      have hs1 := hbw1.size
      go_wp2
      go_ret
      exact ⟨_, rfl, by rw [HZ.out]; exact VOwns.empty _ _ _ hs1, hbw1.alloc hs1 _⟩
  · have HZ := Lib.hid (sizesR_yes hp)
    have HB : ∀ k : Nat, k ≤ 4 → sieveOk ps ((k : Int) + 1) = true := fun k h => sieveOk_pic hp h
    clear hp
    go_enter Try.func26, Try.ntmps26
    go_wp2
    go_loopw [3, 4] (fun o i wr => ∃ k : Nat, i = .int .i64 ((k : Int) + 1) ∧ k ≤ 5 ∧ VOwns 3 wr w.heap.size o (intsZ (sizesUpto ps k)) ∧ Below w.heap.size w wr) (fun _ i _ => (6 - intOf i).toNat)
    case atStart => exact ⟨0, rfl, by omega, VOwns.empty _ _ _ (Nat.le_refl _), b0⟩
    case round =>
      obtain ⟨k, rfl, hk, hown, hbw⟩ := hrel
      by_cases h4 : k ≤ 4
      · have hd : decide ((k : Int) + 1 ≤ 5) = true := decide_eq_true (by omega)
        have hok := HB k h4
        have HS := Lib.hid (sizes_snoc hok)
        go_wp2_with fail
        refine (specSieved_any ps _ ((k : Int) + 1) wr (h.kept hbw)).mono ?_
        rintro e w1 ⟨v1, rfl, o1, b1⟩
        rw [hok]
        clear hok
        obtain ⟨A1, c1, rfl, hc1, hm1⟩ := o1.reads.slice
        unfold maxLen at hm1
        have hbw1 := below_step hbw b1
        have hs1 := hbw1.size
        have ow1 := (hown.below b1).below ((Below.refl _ w1).alloc (Nat.le_refl _) (.cells #[.int .i64 ((sieveR ps ((k : Int) + 1)).length : Int)] 3))
        go_wp2_with (at_builtin; refine wpList_append_Int (g := w1.heap.size) ow1 (x := .int .i64 ((sieveR ps ((k : Int) + 1)).length : Int)) (by simp [go_sem]) rfl (by rw [intsZ_len]; omega) (by simp only [World.size_alloc]; omega) rfl (.tmp 21) (.tmp 24) rfl rfl rfl ?_)
        intro v4 w4 o4 g4 hv4
        rw [← HS.out] at o4
        have bw4 := ow1.below_app (hbw1.alloc hs1 _) (by simp only [World.size_alloc]; omega) g4
        go_wp2
        go_roundw
        case rel => exact ⟨k + 1, by go_num, by omega, o4, bw4⟩
        case measure => simp [intOf]; omega
      · have hd : decide ((k : Int) + 1 ≤ 5) = false := decide_eq_false (by omega)
        have hk5 : k = 5 := by omega
        rw [hk5] at hown
        clear hk5
        go_wp2
        go_ret
        exact ⟨_, rfl, by rw [HZ.out]; exact hown, hbw⟩

theorem goneN_snoc (ps : List Sp) (k : Nat) : intsZ (goneUpto ps (k + 1)) = intsZ (goneUpto ps k) ++ [.int .i64 (goneN ps k)] := by
  rw [goneUpto_succ, intsZ_append]; rfl
theorem gone_len {ps : List Sp} (k : Nat) : (intsZ (goneUpto ps k)).length = k := by rw [intsZ_length, length_goneUpto]
theorem intsZ_at' {l : List Int} {k : Nat} {x : Int} (h : l[k]? = some x) : (intsZ l)[k]? = some (.int .i64 x) := by unfold intsZ; rw [List.getElem?_map, h]; rfl

set_option maxRecDepth 100000 in
set_option maxHeartbeats 1600000 in
theorem specGone_any (ps : List Sp) (v : Value) (w : World) (h : Reads w w.heap.size v ps) : Calls Try.prog 29 #[v] w (GivesInts (goneR ps) w) := by
  rcases hp : picB ps with _ | _
  · have HG := Lib.hid (goneR_no hp)
    have HZ := Lib.hid (sizesR_no hp)
    clear hp
    go_enter Try.func29, Try.ntmps29
    go_wp2_with fail
    refine (specSizes_any ps v w h).mono ?_
    rintro e w1 ⟨v1, rfl, o1, b1⟩
    rw [HZ.out] at o1
    obtain ⟨A1, c1, rfl, hc1, hm1, _⟩ := o1.shape
    have hs1 := b1.size
    go_wp2
    go_rounds 2
    go_ret
    exact ⟨_, rfl, by rw [HG.out]; exact VOwns.empty _ _ _ hs1, b1.alloc hs1 _⟩
  · have HG := Lib.hid (goneR_yes hp)
    have HZ := Lib.hid (sizesR_yes hp)
    have HB : ∀ k, 1 ≤ k → k ≤ 5 → 0 ≤ leftN ps k ∧ leftN ps k ≤ 60 := fun k h1 h2 => ⟨left_nonneg ps k, left_le hp h1 h2⟩
    clear hp
    go_enter Try.func29, Try.ntmps29
    go_wp2_with fail
    refine (specSizes_any ps v w h).mono ?_
    rintro e w1 ⟨v1, rfl, o1, b1⟩
    rw [HZ.out] at o1
    obtain ⟨A1, c1, rfl, hc1, hm1, hA1⟩ := o1.shape
    rw [intsZ_len] at hc1 hA1 o1 ⊢
    obtain ⟨g, rfl, hg1, hg2⟩ := hA1 (by omega)
    unfold maxLen at hm1
    have hs1 := b1.size
    have q1 := fun k (hk : k < 5) => (o1.cell (k := k) (by rw [intsZ_len]; exact hk)).trans (intsZ_at' (sizes_at (p := ps) (n := 5) (k := k) hk))
    go_wp2
    go_loopw [4, 5, 6] (fun o i _ wr => ∃ k : Nat, i = .int .i64 (k : Int) ∧ k ≤ 5 ∧ VOwns 3 wr w1.heap.size o (intsZ (goneUpto ps k)) ∧ Below w1.heap.size w1 wr) (fun _ i _ _ => (5 - intOf i).toNat)
    case atStart => exact ⟨0, rfl, by omega, VOwns.empty _ _ _ (Nat.le_refl _), (Below.refl _ _).alloc (Nat.le_refl _) _⟩
    case round =>
      obtain ⟨k, rfl, hk, hown, hbw⟩ := hrel
      have hsw := hbw.size
      by_cases hlt : k < 5
      · have hd : decide ((k : Int) < 5) = true := decide_eq_true (by omega)
        have d0 := (hbw.cell (p := ⟨g, k, none⟩) hg2).trans (q1 k hlt)
        obtain ⟨B1, B2⟩ := HB (k + 1) (by omega) (by omega)
        obtain ⟨a, ha⟩ : ∃ a, leftN ps (k + 1) = a := ⟨_, rfl⟩
        have i0 : (0 : Int) ≤ (k : Int) := Int.natCast_nonneg _
        have i1 : (k : Int) < 5 := by omega
        by_cases hl2 : k + 1 < 5
        · have hd2 : decide ((k : Int) + 1 < 5) = true := decide_eq_true (by omega)
          have d1 := (hbw.cell (p := ⟨g, k + 1, none⟩) hg2).trans (q1 (k + 1) hl2)
          obtain ⟨B3, B4⟩ := HB (k + 1 + 1) (by omega) (by omega)
          have HN := Lib.hid (show goneN ps k = leftN ps (k + 1) - leftN ps (k + 1 + 1) by unfold goneN; rw [if_pos hl2])
          have HS := Lib.hid (goneN_snoc ps k)
          obtain ⟨b, hb⟩ : ∃ b, leftN ps (k + 1 + 1) = b := ⟨_, rfl⟩
          rw [ha, hb] at HN
          rw [ha] at d0 B1 B2
          rw [hb] at d1 B3 B4
          clear ha hb HB q1
          have i2 : (k : Int) + 1 < 5 := by omega
          have ow1 := hown.below ((Below.refl _ wr).alloc (Nat.le_refl _) (.cells #[.int .i64 (a - b)] 3))
          go_wp2_with (at_builtin; refine wpList_append_Int (g := wr.heap.size) ow1 (x := .int .i64 (a - b)) (by simp [go_sem]) rfl (by rw [gone_len]; omega) (by simp only [World.size_alloc]; omega) rfl (.tmp 32) (.tmp 34) rfl rfl rfl ?_)
          intro v4 w4 o4 g4 hv4
          rw [← HN.out, ← HS.out] at o4
          have bw4 := ow1.below_app (hbw.alloc hsw _) (by simp only [World.size_alloc]; omega) g4
          go_wp2
          go_roundw
          case rel => exact ⟨k + 1, by go_num, by omega, o4, bw4⟩
          case measure => simp [intOf]; omega
        · have hd2 : decide ((k : Int) + 1 < 5) = false := decide_eq_false (by omega)
          have HN := Lib.hid (show goneN ps k = leftN ps (k + 1) by unfold goneN; rw [if_neg hl2])
          have HS := Lib.hid (goneN_snoc ps k)
          rw [ha] at HN d0 B1 B2
          clear ha HB q1
          have ow1 := hown.below ((Below.refl _ wr).alloc (Nat.le_refl _) (.cells #[.int .i64 a] 3))
          go_wp2_with (at_builtin; refine wpList_append_Int (g := wr.heap.size) ow1 (x := .int .i64 a) (by simp [go_sem]) rfl (by rw [gone_len]; omega) (by simp only [World.size_alloc]; omega) rfl (.tmp 32) (.tmp 34) rfl rfl rfl ?_)
          intro v4 w4 o4 g4 hv4
          rw [← HN.out, ← HS.out] at o4
          have bw4 := ow1.below_app (hbw.alloc hsw _) (by simp only [World.size_alloc]; omega) g4
          go_wp2
          go_roundw
          case rel => exact ⟨k + 1, by go_num, by omega, o4, bw4⟩
          case measure => simp [intOf]; omega
      · have hd : decide ((k : Int) < 5) = false := decide_eq_false (by omega)
        have hk5 : k = 5 := by omega
        rw [hk5] at hown
        clear hk5
        go_wp2
        go_ret
        exact ⟨_, rfl, by rw [HG.out]; exact hown.lower hs1, below_step b1 hbw⟩
end Go.Proofs.Ytbdmppejflokaaa
