/- The model's sums: l2Sum and SumOf. No conditions but those typed. -/
import Derived.Test.YtkiidmdgdjphjaaGreatPlain
import Derived.Test.YtkiidmdgdjphjaaGreatMove
import Derived.Test.YtkiidmdgdjphjaaGreatPut
import Derived.Test.YtkiidmdgdjphjaaGreatPicWalk
namespace Go.Proofs.YtkiidmdgdjphjaaGreat
open Go.RowKit Go.Sort

theorem puts_snoc (p l : List Sp) (x : Sp) : puts p (l ++ [x]) = put (puts p l) x := by unfold puts; rw [List.foldl_append]; rfl
def putAcc (ps qs : List Sp) (k : Nat) (a : Sp) (j : Nat) : List Sp := puts [] (accum (sumUpto ps qs k) qs a j)
theorem putAcc_zero (ps qs : List Sp) (k : Nat) (a : Sp) : putAcc ps qs k a 0 = puts [] (sumUpto ps qs k) := by unfold putAcc; rw [accum_zero]
theorem putAcc_succ {ps qs : List Sp} {k j : Nat} {ax ay x y : Int} (h : qs[j]? = some (x, y)) : put (putAcc ps qs k (ax, ay) j) (ax + x, ay + y) = putAcc ps qs k (ax, ay) (j + 1) := by
  unfold putAcc
  rw [← accum_succ h, puts_snoc]
theorem putAcc_all {ps qs : List Sp} {k : Nat} {a : Sp} (h : ps[k]? = some a) : putAcc ps qs k a qs.length = puts [] (sumUpto ps qs (k + 1)) := by
  unfold putAcc
  rw [accum_all, sumUpto_succ h]
theorem length_putAcc (ps qs : List Sp) (k : Nat) (a : Sp) (j : Nat) (hk : k ≤ ps.length) (hp : ps.length ≤ 60) (hq : qs.length ≤ 60) : (putAcc ps qs k a j).length ≤ 100000 := by
  unfold putAcc
  have h1 := length_puts_le (accum (sumUpto ps qs k) qs a j) []
  have h2 := length_accum (sumUpto ps qs k) qs a j
  have h3 := length_sumUpto ps qs k hk
  have h4 := Nat.mul_le_mul hp hq
  simp at h1
  omega

set_option maxHeartbeats 1600000 in
theorem l2Sum_any (ps qs : List Sp) (v u : Value) (w : World) (h : Reads w w.heap.size v ps) (h' : Reads w w.heap.size u qs) (hp : ∀ a ∈ ps, Near a) (hq : ∀ a ∈ qs, Near a) (hpl : ps.length ≤ 60) (hql : qs.length ≤ 60) :
    Calls Tryz.prog 91 #[v, u] w fun e w' => ∃ v', e = .returned v' ∧ Owns w' w.heap.size v' (sumL ps qs) ∧ Below w.heap.size w w' := by
  obtain ⟨A, c, rfl, hc, hm, hA, hr⟩ := h.is
  obtain ⟨A', c', rfl, hc', hm', hA', hr'⟩ := h'.is
  unfold maxLen at hm hm'
  have hal : Below w.heap.size w (w.alloc (.cells #[] 53)) := (Below.refl _ _).alloc (Nat.le_refl _) _
  have oE := Owns.empty w w.heap.size (Nat.le_refl _)
  by_cases h0 : ps.length = 0
  · obtain rfl := List.eq_nil_of_length_eq_zero h0
    go_enter Tryz.func91, Tryz.ntmps91
    go_wp2
    refine wp_loop_rounds 1 ?_
    rw [rounds_succ]
    go_wp2
    go_ret
    exact ⟨_, rfl, oE, hal⟩
  obtain ⟨b, off, rfl, hb, hcell⟩ := hr (by omega)
  by_cases h1 : qs.length = 0
  · obtain rfl := List.eq_nil_of_length_eq_zero h1
    have e : sumL ps [] = [] := by unfold sumL; rw [sumRaw_nil_right]; rfl
    rw [e]
    go_enter Tryz.func91, Tryz.ntmps91
    go_wp2
    go_loopw [5, 6] (fun s i wr => ∃ k : Nat, k ≤ ps.length ∧ i = .int .i64 k ∧ Owns wr w.heap.size s [] ∧ Below w.heap.size w wr) (fun _ i _ => ps.length - (intOf i).toNat)
    case atStart => exact ⟨0, Nat.zero_le _, rfl, oE, hal⟩
    case round =>
      obtain ⟨k, hk, rfl, hown, hbw⟩ := hrel
      by_cases hlt : k < ps.length
      · go_wp2
        refine wp_loop_rounds 1 ?_
        rw [rounds_succ]
        go_wp2
        go_roundw
        case rel => exact ⟨k + 1, by omega, by go_num, hown, hbw⟩
        case measure => simp [intOf]; omega
      · go_wp2
        go_ret
        exact ⟨_, rfl, hown, hbw⟩
  · obtain ⟨b', off', rfl, hb', hcell'⟩ := hr' (by omega)
    go_enter Tryz.func91, Tryz.ntmps91
    go_wp2
    go_loopw [5, 6] (fun s i wr => ∃ k : Nat, k ≤ ps.length ∧ i = .int .i64 k ∧ Owns wr w.heap.size s (puts [] (sumUpto ps qs k)) ∧ Below w.heap.size w wr) (fun _ i _ => ps.length - (intOf i).toNat)
    case atStart => exact ⟨0, Nat.zero_le _, rfl, by unfold sumUpto; rw [List.take_zero]; exact oE, hal⟩
    case round =>
      obtain ⟨k, hk, rfl, hown, hbw⟩ := hrel
      by_cases hlt : k < ps.length
      · obtain ⟨⟨ax, ay⟩, hxy⟩ : ∃ a, ps[k]? = some a := ⟨_, List.getElem?_eq_getElem hlt⟩
        obtain ⟨c0, c1⟩ := hcell k ax ay hxy
        have hna := hp _ (List.mem_of_getElem? hxy)
        have hT := Lib.hid (putAcc_all (qs := qs) hxy)
        rw [← putAcc_zero ps qs k (ax, ay)] at hown
        clear hxy
        go_wp2
        go_loopw [5, 7] (fun s i wr => ∃ j : Nat, j ≤ qs.length ∧ i = .int .i64 j ∧ Owns wr w.heap.size s (putAcc ps qs k (ax, ay) j) ∧ Below w.heap.size w wr) (fun _ i _ => qs.length - (intOf i).toNat)
        case atStart => exact ⟨0, Nat.zero_le _, rfl, hown, hbw⟩
        case round =>
          obtain ⟨j, hj, rfl, hown, hbw⟩ := hrel
          by_cases hlj : j < qs.length
          · obtain ⟨⟨x, y⟩, hxy⟩ : ∃ a, qs[j]? = some a := ⟨_, List.getElem?_eq_getElem hlj⟩
            obtain ⟨c2, c3⟩ := hcell' j x y hxy
            have hnb := hq _ (List.mem_of_getElem? hxy)
            have hS := Lib.hid (putAcc_succ (ps := ps) (k := k) (ax := ax) (ay := ay) hxy)
            have hlen := length_putAcc ps qs k (ax, ay) j hk hpl hql
            have d0 := (hbw.cell (p := ⟨b, off + k * 2, none⟩) hb).trans c0
            have d1 := (hbw.cell (p := ⟨b, off + k * 2 + 1, none⟩) hb).trans c1
            have d2 := (hbw.cell (p := ⟨b', off' + j * 2, none⟩) hb').trans c2
            have d3 := (hbw.cell (p := ⟨b', off' + j * 2 + 1, none⟩) hb').trans c3
            unfold Near at hna hnb
            simp only at hna hnb
            have hwx : IntKind.i64.wrap (ax + x) = ax + x := IntWalk.i64_in _ (by omega)
            have hwy : IntKind.i64.wrap (ay + y) = ay + y := IntWalk.i64_in _ (by omega)
            have hm0 : (0 : Int) ≤ (k : Int) := Int.natCast_nonneg _
            have hm1 : (k : Int) < (ps.length : Int) := by omega
            have hm2 : (0 : Int) ≤ (j : Int) := Int.natCast_nonneg _
            have hm3 : (j : Int) < (qs.length : Int) := by omega
            have own2 := hown.below (Below.refl wr.heap.size wr).drew
            have bw2 := hbw.drew
            have hbs2 := bw2.size
            clear hxy hnb
            go_wp2_with fail
            go_region_held3 (fun w' => w'.cell? ⟨b, off + k * 2, none⟩ = some (.int .i64 ax) ∧ w'.cell? ⟨b, off + k * 2 + 1, none⟩ = some (.int .i64 ay) ∧ w'.cell? ⟨b', off' + j * 2, none⟩ = some (.int .i64 x) ∧ w'.cell? ⟨b', off' + j * 2 + 1, none⟩ = some (.int .i64 y)) (first | go_keep | exact ⟨by assumption, by assumption, by assumption, by assumption⟩)
              ((go_at_call 68; refine (l1Put_any _ _ (ax + x) (ay + y) w.heap.size _ own2 hbs2 hlen).mono ?_; rintro e w4 ⟨v4, rfl, o4, b4⟩; have bz := bw2.trans (b4.mono hbs2); have e0 := (bz.cell (p := ⟨b, off + k * 2, none⟩) hb).trans c0; have e1 := (bz.cell (p := ⟨b, off + k * 2 + 1, none⟩) hb).trans c1; have e2 := (bz.cell (p := ⟨b', off' + j * 2, none⟩) hb').trans c2; have e3 := (bz.cell (p := ⟨b', off' + j * 2 + 1, none⟩) hb').trans c3))
            go_wp2
            go_roundw
            case rel => exact ⟨j + 1, by omega, by go_num, by rw [← hS.out]; exact o4, bz⟩
            case measure => simp [intOf]; omega
          · obtain rfl : j = qs.length := by omega
            rw [hT.out] at hown
            go_wp2
            go_roundw
            case rel => exact ⟨k + 1, by omega, by go_num, hown, hbw⟩
            case measure => simp [intOf]; omega
      · obtain rfl : k = ps.length := by omega
        rw [sumUpto_all] at hown
        go_wp2
        go_ret
        exact ⟨_, rfl, hown, hbw⟩

set_option maxHeartbeats 1600000 in
theorem specSum_any (ps qs : List Sp) (v u : Value) (w : World) (h : Reads w w.heap.size v ps) (k : Reads w w.heap.size u qs) :
    Calls Tryz.prog 69 #[v, u] w (Gives2' (sumR ps qs) (sumOk ps qs) w) := by
  obtain ⟨A, c, rfl, hc, hm, _⟩ := k.is
  obtain ⟨A', c', rfl, hc', hm', _⟩ := h.is
  unfold maxLen at hm hm'
  rcases hp : picB ps with _ | _
  · obtain ⟨e1, e2⟩ := sum_no1 (q := qs) hp
    rw [e1, e2]
    go_enter Tryz.func69, Tryz.ntmps69
    go_wp2_with fail
    refine (gives_is hp (specPicture_any ps _ _ h)).mono ?_
    rintro e w1 ⟨rfl, b1⟩
    have hle := (b1).size
    go_wp2
    go_ret2
    exact ⟨_, rfl, Owns.empty _ _ hle, (b1).alloc hle _⟩
  rcases hq : picB qs with _ | _
  · obtain ⟨e1, e2⟩ := sum_no2 (p := ps) hq
    rw [e1, e2]
    go_enter Tryz.func69, Tryz.ntmps69
    go_wp2_with fail
    refine (gives_is hp (specPicture_any ps _ _ h)).mono ?_
    rintro e w1 ⟨rfl, b1⟩
    go_wp2_with fail
    refine (gives_is hq (specPicture_any qs _ _ (k.kept b1))).mono ?_
    rintro e w2 ⟨rfl, b2⟩
    have bw2 := below_step b1 b2
    have hle := (bw2).size
    go_wp2
    go_ret2
    exact ⟨_, rfl, Owns.empty _ _ hle, (bw2).alloc hle _⟩
  · have hpn : ∀ a ∈ ps, Near a := fun a ha => near_of ((picB_pic hp).2.1 a ha)
    have hqn : ∀ a ∈ qs, Near a := fun a ha => near_of ((picB_pic hq).2.1 a ha)
    have hpl := (picB_pic hp).1
    have hql := (picB_pic hq).1
    rcases hs : picB (sumL ps qs) with _ | _
    all_goals
      first
        | have HE := sum_yes hp hq hs
        | have HE := sum_no3 hs
      obtain ⟨e1, e2⟩ := HE
      rw [e1, e2]
      clear e1 e2
      go_enter Tryz.func69, Tryz.ntmps69
      go_wp2_with fail
      refine (gives_is hp (specPicture_any ps _ _ h)).mono ?_
      rintro e w1 ⟨rfl, b1⟩
      go_wp2_with fail
      refine (gives_is hq (specPicture_any qs _ _ (k.kept b1))).mono ?_
      rintro e w2 ⟨rfl, b2⟩
      have bw2 := below_step b1 b2
      go_wp2_with fail
      refine (l2Sum_any ps qs _ _ _ (h.kept bw2) (k.kept bw2) hpn hqn hpl hql).mono ?_
      rintro e w3 ⟨v3, rfl, own3, b3⟩
      have bw3 := below_step bw2 b3
      go_wp2_with fail
      refine (gives_is hs (specPicture_any (sumL ps qs) _ _ own3.reads)).mono ?_
      rintro e w4 ⟨rfl, b4⟩
      have own4 := own3.below b4
      have bw4 := below_step bw3 b4
      first
        | (go_wp2; go_ret2; exact ⟨_, rfl, own4.base bw2.size, bw4⟩)
        | (have hle := bw4.size; go_wp2; go_ret2; exact ⟨_, rfl, Owns.empty _ _ hle, bw4.alloc hle _⟩)
end Go.Proofs.YtkiidmdgdjphjaaGreat
