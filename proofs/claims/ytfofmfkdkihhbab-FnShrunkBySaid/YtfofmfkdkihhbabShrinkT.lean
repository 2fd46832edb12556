/- ShrunkBy, GrownShrunk, ShrunkGrown and FitsAt of the model. No conditions but those typed. -/
import Derived.Test.YtfofmfkdkihhbabShrinkS
namespace Go.Proofs.Ytfofmfkdkihhbab
open Go.RowKit Go.Sort

set_option maxHeartbeats 1600000 in
theorem specShrunk_any (ps qs : List Sp) (v u : Value) (w : World) (h : Reads w w.heap.size v ps) (k : Reads w w.heap.size u qs) :
    Calls Try.prog 13 #[v, u] w (Gives2' (shrinkR ps qs) (shrinkOk ps qs) w) := by
  obtain ⟨A, c, rfl, hc, hm, _⟩ := k.is
  obtain ⟨A', c', rfl, hc', hm', _⟩ := h.is
  unfold maxLen at hm hm'
  rcases hp : picB ps with _ | _
  · obtain ⟨e1, e2⟩ := shrink_no1 (q := qs) hp
    rw [e1, e2]
    go_enter Try.func13, Try.ntmps13
    go_wp2_with fail
    refine (gives_is hp (specPicture_any ps _ _ h)).mono ?_
    rintro e w1 ⟨rfl, b1⟩
    have hle := (b1).size
    go_wp2
    go_ret2
    exact ⟨_, rfl, Owns.empty _ _ hle, (b1).alloc hle _⟩
  rcases hq : picB qs with _ | _
  · obtain ⟨e1, e2⟩ := shrink_no2 (p := ps) hq
    rw [e1, e2]
    go_enter Try.func13, Try.ntmps13
    go_wp2_with fail
    refine (gives_is hp (specPicture_any ps _ _ h)).mono ?_
    rintro e w1 ⟨rfl, b1⟩
    go_wp2_with fail
    refine (gives_is hq (specPicture_any qs _ _ (k.kept b1))).mono ?_
    rintro e w2 ⟨rfl, b2⟩
    have bw2 := below_step b1 b2
    have hle := (bw2).size
    go_wp2
    go_ret2
    exact ⟨_, rfl, Owns.empty _ _ hle, (bw2).alloc hle _⟩
  by_cases h0 : qs = []
  · obtain ⟨e1, e2⟩ := shrink_no3 (p := ps) h0
    rw [e1, e2]
    subst h0
    go_enter Try.func13, Try.ntmps13
    go_wp2_with fail
    refine (gives_is hp (specPicture_any ps _ _ h)).mono ?_
    rintro e w1 ⟨rfl, b1⟩
    go_wp2_with fail
    refine (gives_is hq (specPicture_any [] _ _ (k.kept b1))).mono ?_
    rintro e w2 ⟨rfl, b2⟩
    have bw2 := below_step b1 b2
    have hle := (bw2).size
    go_wp2
    go_ret2
    exact ⟨_, rfl, Owns.empty _ _ hle, (bw2).alloc hle _⟩
  · have hpn : ∀ a ∈ ps, Near a := fun a ha => near_of ((picB_pic hp).2.1 a ha)
    have hqn : ∀ a ∈ qs, Near a := fun a ha => near_of ((picB_pic hq).2.1 a ha)
    have hpl := (picB_pic hp).1
    have hql := (picB_pic hq).1
    have hps := (picB_pic hp).2.2
    have hq1 : 0 < qs.length := by cases qs with | nil => exact absurd rfl h0 | cons _ _ => simp
    have hqb : ((qs.length : Int) == 0) = false := by rw [beq_eq_false_iff_ne]; omega
    rcases hs : picB (shrinkL ps qs) with _ | _
    all_goals
      first
        | have HE := shrink_yes hp hq h0 hs
        | have HE := shrink_no4 hs
      obtain ⟨e1, e2⟩ := HE
      rw [e1, e2]
      clear e1 e2
      go_enter Try.func13, Try.ntmps13
      go_wp2_with fail
      refine (gives_is hp (specPicture_any ps _ _ h)).mono ?_
      rintro e w1 ⟨rfl, b1⟩
      go_wp2_with fail
      refine (gives_is hq (specPicture_any qs _ _ (k.kept b1))).mono ?_
      rintro e w2 ⟨rfl, b2⟩
      have bw2 := below_step b1 b2
      go_wp2_with fail
      refine (l3Shrunk_any ps qs _ _ _ (h.kept bw2) (k.kept bw2) hps hpn hqn hpl hql h0).mono ?_
      rintro e w3 ⟨v3, rfl, own3, b3⟩
      have bw3 := below_step bw2 b3
      go_wp2_with fail
      refine (gives_is hs (specPicture_any (shrinkL ps qs) _ _ own3.reads)).mono ?_
      rintro e w4 ⟨rfl, b4⟩
      have own4 := own3.below b4
      have bw4 := below_step bw3 b4
      first
        | (go_wp2; go_ret2; exact ⟨_, rfl, own4.base bw2.size, bw4⟩)
        | (have hle := bw4.size; go_wp2; go_ret2; exact ⟨_, rfl, Owns.empty _ _ hle, bw4.alloc hle _⟩)

theorem specShrunk_is {b : Bool} {p q : List Sp} {v u : Value} {w : World} (hk : shrinkOk p q = b) (h : Reads w w.heap.size v p) (k : Reads w w.heap.size u q) : Calls Try.prog 13 #[v, u] w (Gives2' (shrinkR p q) b w) := by
  subst hk; exact specShrunk_any p q v u w h k
theorem specSum_is {b : Bool} {p q : List Sp} {v u : Value} {w : World} (hk : sumOk p q = b) (h : Reads w w.heap.size v p) (k : Reads w w.heap.size u q) : Calls Try.prog 57 #[v, u] w (Gives2' (sumR p q) b w) := by
  subst hk; exact specSum_any p q v u w h k

theorem specGrownShrunk_any (ps qs : List Sp) (v u : Value) (w : World) (h : Reads w w.heap.size v ps) (k : Reads w w.heap.size u qs) :
    Calls Try.prog 27 #[v, u] w (Gives2' (grownShrunkR ps qs) (grownShrunkOk ps qs) w) := by
  obtain ⟨A, c, rfl, hc, hm, _⟩ := k.is
  obtain ⟨A', c', rfl, hc', hm', _⟩ := h.is
  rcases hk : sumOk ps qs with _ | _
  · obtain ⟨e1, e2⟩ := grownShrunk_no hk
    rw [e1, e2]
    go_enter Try.func27, Try.ntmps27
    go_wp2_with fail
    refine (specSum_is hk h k).mono ?_
    rintro e w1 ⟨v1, rfl, _, b1⟩
    have hle := (b1).size
    go_wp2
    go_ret2
    exact ⟨_, rfl, Owns.empty _ _ hle, (b1).alloc hle _⟩
  · obtain ⟨e1, e2⟩ := grownShrunk_yes hk
    rw [e1, e2]
    go_enter Try.func27, Try.ntmps27
    go_wp2_with fail
    refine (specSum_is hk h k).mono ?_
    rintro e w1 ⟨v1, rfl, own1, b1⟩
    go_wp2_with fail
    refine (specShrunk_any _ qs _ _ _ own1.reads (k.kept b1)).mono ?_
    rintro e w2 ⟨v2, rfl, own2, b2⟩
    go_wp2
    go_ret2
    exact ⟨_, rfl, own2.base b1.size, below_step b1 b2⟩
theorem specShrunkGrown_any (ps qs : List Sp) (v u : Value) (w : World) (h : Reads w w.heap.size v ps) (k : Reads w w.heap.size u qs) :
    Calls Try.prog 30 #[v, u] w (Gives2' (shrunkGrownR ps qs) (shrunkGrownOk ps qs) w) := by
  obtain ⟨A, c, rfl, hc, hm, _⟩ := k.is
  obtain ⟨A', c', rfl, hc', hm', _⟩ := h.is
  rcases hk : shrinkOk ps qs with _ | _
  · obtain ⟨e1, e2⟩ := shrunkGrown_no hk
    rw [e1, e2]
    go_enter Try.func30, Try.ntmps30
    go_wp2_with fail
    refine (specShrunk_is hk h k).mono ?_
    rintro e w1 ⟨v1, rfl, _, b1⟩
    have hle := (b1).size
    go_wp2
    go_ret2
    exact ⟨_, rfl, Owns.empty _ _ hle, (b1).alloc hle _⟩
  · obtain ⟨e1, e2⟩ := shrunkGrown_yes hk
    rw [e1, e2]
    go_enter Try.func30, Try.ntmps30
    go_wp2_with fail
    refine (specShrunk_is hk h k).mono ?_
    rintro e w1 ⟨v1, rfl, own1, b1⟩
    go_wp2_with fail
    refine (specSum_any _ qs _ _ _ own1.reads (k.kept b1)).mono ?_
    rintro e w2 ⟨v2, rfl, own2, b2⟩
    go_wp2
    go_ret2
    exact ⟨_, rfl, own2.base b1.size, below_step b1 b2⟩
theorem specFits_any (ps qs : List Sp) (v u : Value) (ax ay : Int) (w : World) (h : Reads w w.heap.size v ps) (k : Reads w w.heap.size u qs) :
    Calls Try.prog 33 #[v, u, .agg #[.int .i64 ax, .int .i64 ay]] w (Gives (.bool (fitsB ps qs (ax, ay))) w) := by
  obtain ⟨A, c, rfl, hc, hm, _⟩ := k.is
  obtain ⟨A', c', rfl, hc', hm', _⟩ := h.is
  have h1 := h.kept (box_below w #[.int .i64 ax, .int .i64 ay] 32)
  have k1 := k.kept (box_below w #[.int .i64 ax, .int .i64 ay] 32)
  rcases hk : shrinkOk ps qs with _ | _
  · rw [fits_no hk]
    go_enter Try.func33, Try.ntmps33
    go_wp2_with fail
    refine (specShrunk_is hk h1 k1).mono ?_
    rintro e w1 ⟨v1, rfl, own1, b1⟩
    go_wp2
    go_ret
    exact ⟨rfl, below_step (box_below _ _ _) b1⟩
  · rw [fits_yes hk]
    have hs : Sorted (shrinkR ps qs) := by rw [(shrink_is hk).eq]; exact (picB_pic (shrink_is hk).ps).2.2
    have hl := shrinkR_le ps qs
    go_enter Try.func33, Try.ntmps33
    go_wp2_with fail
    refine (specShrunk_is hk h1 k1).mono ?_
    rintro e w1 ⟨v1, rfl, own1, b1⟩
    have c0 := (b1.cell (p := ⟨w.heap.size, 0, none⟩) (by simp)).trans (show _ = some (Value.int .i64 ax) by simp [go_sem])
    have c1 := (b1.cell (p := ⟨w.heap.size, 1, none⟩) (by simp)).trans (show _ = some (Value.int .i64 ay) by simp [go_sem])
    go_wp2_with fail
    refine (l1Has_any _ _ ax ay _ own1.reads hs (by omega)).mono ?_
    rintro e w2 ⟨rfl, b2⟩
    go_wp2
    go_ret
    exact ⟨rfl, below_step (below_step (box_below _ _ _) b1) b2⟩
end Go.Proofs.Ytfofmfkdkihhbab
