/- The model's SideAt. No conditions but those typed. -/
import Derived.Test.YtbdmppejflokaaaSizeS
import Derived.Test.YtbdmppejflokaaaHas
namespace Go.Proofs.Ytbdmppejflokaaa
open Go.RowKit Go.Sort

theorem sideUpto_step_yes {ps : List Sp} {a : Sp} {k : Nat} (h : a ∈ openL ps ((k : Int) + 1)) : sideUpto ps a (k + 1) = k + 1 := by
  rw [sideUpto]
  exact if_pos h
theorem sideUpto_step_no {ps : List Sp} {a : Sp} {k : Nat} (h : ¬ a ∈ openL ps ((k : Int) + 1)) : sideUpto ps a (k + 1) = sideUpto ps a k := by
  rw [sideUpto]
  exact if_neg h

set_option maxRecDepth 100000 in
set_option maxHeartbeats 1600000 in
theorem specSide_any (ps : List Sp) (v : Value) (ax ay : Int) (w : World) (h : Reads w w.heap.size v ps) : Calls Try.prog 32 #[v, .agg #[.int .i64 ax, .int .i64 ay]] w (Gives (.int .i64 (sideR ps (ax, ay))) w) := by
  obtain ⟨A, c, rfl, hc, hm⟩ := h.slice
  have b0 : Below w.heap.size w (w.alloc (.cells #[.int .i64 ax, .int .i64 ay] 39)) := box_below w _ _
  have c0 : (w.alloc (.cells #[.int .i64 ax, .int .i64 ay] 39)).cell? ⟨w.heap.size, 0, none⟩ = some (.int .i64 ax) := by simp [go_sem]
  have c1 : (w.alloc (.cells #[.int .i64 ax, .int .i64 ay] 39)).cell? ⟨w.heap.size, 1, none⟩ = some (.int .i64 ay) := by simp [go_sem]
  have z0 : w.heap.size < (w.alloc (.cells #[.int .i64 ax, .int .i64 ay] 39)).heap.size := by simp
  have hr := h.kept b0
  obtain ⟨W, hW⟩ : ∃ W, w.alloc (.cells #[.int .i64 ax, .int .i64 ay] 39) = W := ⟨_, rfl⟩
  rw [hW] at b0 c0 c1 z0 hr
  rcases hp : picB ps with _ | _
  · have HR := Lib.hid (show sideR ps (ax, ay) = -1 by unfold sideR; rw [hp]; rfl)
    have hpc := gives_is hp (specPicture_any ps _ W hr)
    clear hp
    go_enter Try.func32, Try.ntmps32
    go_wp2_with (first | (rw [hW]; clear hW) | fail)
    refine hpc.mono ?_
    rintro e w1 ⟨rfl, b1⟩
    go_wp2
    go_ret
    exact ⟨by rw [HR.out]; rfl, b0.trans (b1.mono b0.size)⟩
  · have HR := Lib.hid (show sideR ps (ax, ay) = (sideUpto ps (ax, ay) 5 : Int) by unfold sideR; rw [hp]; rfl)
    have hpc := gives_is hp (specPicture_any ps _ W hr)
    have HP := Lib.hid hp
    clear hp
    go_enter Try.func32, Try.ntmps32
    go_wp2_with (first | (rw [hW]; clear hW) | fail)
    refine hpc.mono ?_
    rintro e w1 ⟨rfl, b1⟩
    go_wp2
    go_loopw [5, 6] (fun o i wr => ∃ k : Nat, i = .int .i64 ((k : Int) + 1) ∧ k ≤ 5 ∧ o = .int .i64 (sideUpto ps (ax, ay) k : Int) ∧ Below W.heap.size W wr) (fun _ i _ => (6 - intOf i).toNat)
    case atStart => exact ⟨0, rfl, by omega, rfl, b1⟩
    case round =>
      obtain ⟨k, rfl, hk, rfl, hbw⟩ := hrel
      by_cases h4 : k ≤ 4
      · have hd : decide ((k : Int) + 1 ≤ 5) = true := decide_eq_true (by omega)
        have hok := sieveOk_pic HP.out h4
        have d0 := (hbw.cell (p := ⟨w.heap.size, 0, none⟩) z0).trans c0
        have d1 := (hbw.cell (p := ⟨w.heap.size, 1, none⟩) z0).trans c1
        have hS := sieve_yes hok
        have hln : (openL ps ((k : Int) + 1)).length ≤ 1000000 := by have := (picB_pic (pic_open HP.out (sieve_parts hok).1)).1; omega
        go_wp2_with fail
        refine (specSieved_any ps _ ((k : Int) + 1) wr (hr.kept hbw)).mono ?_
        rintro e w2 ⟨v2, rfl, o2, b2⟩
        rw [hok]
        rw [hS] at o2
        clear hok hS
        have e0 := (b2.cell (p := ⟨w.heap.size, 0, none⟩) (Nat.lt_of_lt_of_le z0 hbw.size)).trans d0
        have e1 := (b2.cell (p := ⟨w.heap.size, 1, none⟩) (Nat.lt_of_lt_of_le z0 hbw.size)).trans d1
        have hbw2 := hbw.trans (b2.mono hbw.size)
        obtain ⟨A2, c2, rfl, hc2, hm2⟩ := o2.reads.slice
        clear d0 d1
        by_cases hmem : (ax, ay) ∈ openL ps ((k : Int) + 1)
        · have HS := Lib.hid (sideUpto_step_yes hmem)
          have hl := gives_is (show decide ((ax, ay) ∈ openL ps ((k : Int) + 1)) = true from decide_eq_true hmem) (l1Has_any _ _ ax ay w2 o2.reads (sorted_openL _ _) hln)
          clear hmem
          go_wp2_with fail
          refine hl.mono ?_
          rintro e w3 ⟨rfl, b3⟩
          go_wp2
          go_roundw
          case rel => exact ⟨k + 1, by go_num, by omega, by rw [HS.out]; go_num, hbw2.trans (b3.mono hbw2.size)⟩
          case measure => simp [intOf]; omega
        · have HS := Lib.hid (sideUpto_step_no hmem)
          have hl := gives_is (show decide ((ax, ay) ∈ openL ps ((k : Int) + 1)) = false from decide_eq_false hmem) (l1Has_any _ _ ax ay w2 o2.reads (sorted_openL _ _) hln)
          clear hmem
          go_wp2_with fail
          refine hl.mono ?_
          rintro e w3 ⟨rfl, b3⟩
          go_wp2
          go_roundw
          case rel => exact ⟨k + 1, by go_num, by omega, by rw [HS.out], hbw2.trans (b3.mono hbw2.size)⟩
          case measure => simp [intOf]; omega
      · have hd : decide ((k : Int) + 1 ≤ 5) = false := decide_eq_false (by omega)
        have hk5 : k = 5 := by omega
        have HK := Lib.hid hk5
        clear hk5
        go_wp2
        go_ret
        exact ⟨by rw [HR.out, ← HK.out]; rfl, b0.trans (hbw.mono b0.size)⟩
end Go.Proofs.Ytbdmppejflokaaa
