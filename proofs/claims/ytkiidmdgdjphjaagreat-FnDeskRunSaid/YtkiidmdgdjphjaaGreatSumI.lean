/- The program's SumOf. No conditions but those typed. -/
import Derived.Test.YtkiidmdgdjphjaaGreatSumW
import Derived.Test.YtkiidmdgdjphjaaGreatPlain
import Derived.Test.YtkiidmdgdjphjaaGreatMove
namespace Go.Proofs.YtkiidmdgdjphjaaGreat
open Go.RowKit Go.Sort

set_option maxHeartbeats 1600000 in
theorem implSum_any (ps qs : List Sp) (v u : Value) (w : World) (h : Reads w w.heap.size v ps) (k : Reads w w.heap.size u qs) :
    Calls Tryz.prog 98 #[v, u] w (Gives2' (sumR ps qs) (sumOk ps qs) w) := by
  obtain ⟨A, c, rfl, hc, hm, _⟩ := k.is
  obtain ⟨A', c', rfl, hc', hm', _⟩ := h.is
  unfold maxLen at hm hm'
  rcases hp : picB ps with _ | _
  · obtain ⟨e1, e2⟩ := sum_no1 (q := qs) hp
    rw [e1, e2]
    have b0 := box_below w #[.slice A qs.length c] 23
    obtain ⟨W, hW⟩ : ∃ W, W = w.alloc (.cells #[.slice A qs.length c] 23) := ⟨_, rfl⟩
    have hcW : W.cell? ⟨w.heap.size, 0, none⟩ = some (.slice A qs.length c) := by rw [hW]; simp [go_sem]
    have hWs : w.heap.size < W.heap.size := by rw [hW]; simp
    rw [← hW] at b0
    have hv := h.kept b0
    have hu := k.kept b0
    go_enter Tryz.func98, Tryz.ntmps98
    go_wp2_with (first | (rw [← hW]; clear hW) | fail)
    refine (gives_is hp (implPicture_any ps _ _ hv)).mono ?_
    rintro e w1 ⟨rfl, b1⟩
    have bw1 := below_step b0 b1
    have hc1 := (b1.cell (p := ⟨w.heap.size, 0, none⟩) hWs).trans hcW
    have hs1 := Nat.lt_of_lt_of_le hWs b1.size
    have hv1 := hv.kept b1
    have hu1 := hu.kept b1
    clear hp b0 b1 hcW hWs hv hu
    go_wp2
    go_ret2
    exact ⟨_, rfl, Owns.nil _ _, bw1⟩
  rcases hq : picB qs with _ | _
  · obtain ⟨e1, e2⟩ := sum_no2 (p := ps) hq
    rw [e1, e2]
    have b0 := box_below w #[.slice A qs.length c] 23
    obtain ⟨W, hW⟩ : ∃ W, W = w.alloc (.cells #[.slice A qs.length c] 23) := ⟨_, rfl⟩
    have hcW : W.cell? ⟨w.heap.size, 0, none⟩ = some (.slice A qs.length c) := by rw [hW]; simp [go_sem]
    have hWs : w.heap.size < W.heap.size := by rw [hW]; simp
    rw [← hW] at b0
    have hv := h.kept b0
    have hu := k.kept b0
    go_enter Tryz.func98, Tryz.ntmps98
    go_wp2_with (first | (rw [← hW]; clear hW) | fail)
    refine (gives_is hp (implPicture_any ps _ _ hv)).mono ?_
    rintro e w1 ⟨rfl, b1⟩
    have bw1 := below_step b0 b1
    have hc1 := (b1.cell (p := ⟨w.heap.size, 0, none⟩) hWs).trans hcW
    have hs1 := Nat.lt_of_lt_of_le hWs b1.size
    have hv1 := hv.kept b1
    have hu1 := hu.kept b1
    clear hp b0 b1 hcW hWs hv hu
    go_wp2_with fail
    refine (gives_is hq (implPicture_any qs _ _ hu1)).mono ?_
    rintro e w2 ⟨rfl, b2⟩
    go_wp2
    go_ret2
    exact ⟨_, rfl, Owns.nil _ _, below_step bw1 b2⟩
  · have hpn : ∀ a ∈ ps, Near a := fun a ha => near_of ((picB_pic hp).2.1 a ha)
    have hqn : ∀ a ∈ qs, Near a := fun a ha => near_of ((picB_pic hq).2.1 a ha)
    have hpl := (picB_pic hp).1
    have hql := (picB_pic hq).1
    rcases hs : picB (sumL ps qs) with _ | _
    all_goals
      first
        | have HE := Lib.hid (sum_yes hp hq hs)
        | have HE := Lib.hid (sum_no3 hs)
      have HS := Lib.hid hs
      have HQ := Lib.hid hq
      clear hs hq
      have b0 := box_below w #[.slice A qs.length c] 23
      obtain ⟨W, hW⟩ : ∃ W, W = w.alloc (.cells #[.slice A qs.length c] 23) := ⟨_, rfl⟩
      have hcW : W.cell? ⟨w.heap.size, 0, none⟩ = some (.slice A qs.length c) := by rw [hW]; simp [go_sem]
      have hWs : w.heap.size < W.heap.size := by rw [hW]; simp
      rw [← hW] at b0
      have hv := h.kept b0
      have hu := k.kept b0
      go_enter Tryz.func98, Tryz.ntmps98
      go_wp2_with (first | (rw [← hW]; clear hW) | fail)
      refine (gives_is hp (implPicture_any ps _ _ hv)).mono ?_
      rintro e w1 ⟨rfl, b1⟩
      have bw1 := below_step b0 b1
      have hc1 := (b1.cell (p := ⟨w.heap.size, 0, none⟩) hWs).trans hcW
      have hs1 := Nat.lt_of_lt_of_le hWs b1.size
      have hv1 := hv.kept b1
      have hu1 := hu.kept b1
      clear hp b0 b1 hcW hWs hv hu
      have hq := HQ.out
      go_wp2_with fail
      refine (gives_is hq (implPicture_any qs _ _ hu1)).mono ?_
      rintro e w2 ⟨rfl, b2⟩
      have bw2 := below_step bw1 b2
      have hc2 := (b2.cell (p := ⟨w.heap.size, 0, none⟩) hs1).trans hc1
      have hs2 := Nat.lt_of_lt_of_le hs1 b2.size
      have hv2 := hv1.kept b2
      have hu2 := hu1.kept b2
      clear hq b2 hc1 hs1 hv1 hu1 bw1
      go_wp2_with fail
      refine (folded_any w.heap.size ps qs _ _ w2 hpn hqn hs2 hc2 hv2 hu2 hpl hql).mono ?_
      rintro e w3 ⟨v3, rfl, own3, b3⟩
      have bw3 := below_step bw2 b3
      have hlen : (sumRaw ps qs).length ≤ 1000000 := by
        rw [length_sumRaw]
        have := Nat.mul_le_mul hpl hql
        omega
      go_wp2_with fail
      refine (putInOrder_any w2.heap.size (sumRaw ps qs) v3 _ own3 b3.size hlen).mono ?_
      rintro e w4 ⟨v4, l', rfl, hws, hmem, own4, b4⟩
      rw [dd_sum hws hmem] at own4
      have bw4 := bw3.trans (b4.mono bw2.size)
      clear hws hmem own3 b3 b4 bw3
      have hs := HS.out
      obtain ⟨A4, c4, rfl, _, _⟩ := own4.reads.slice
      go_wp2_with fail
      first
        | (with_reducible refine (told_yes hs own4).mono ?_)
        | (with_reducible refine (told_no hs own4).mono ?_)
      rintro e w5 ⟨rfl, b5⟩
      have own5 := own4.below b5
      have bw5 := below_step bw4 b5
      clear hs
      go_wp2
      go_ret2
      first
        | exact ⟨_, by rw [HE.out.1]; rfl, by rw [HE.out.2]; exact own5.base bw2.size, bw5⟩
        | exact ⟨_, by rw [HE.out.1]; rfl, by rw [HE.out.2]; exact Owns.nil _ _, bw5⟩
end Go.Proofs.YtkiidmdgdjphjaaGreat
