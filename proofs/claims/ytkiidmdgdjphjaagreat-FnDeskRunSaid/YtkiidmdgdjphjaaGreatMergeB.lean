/- The program's merge with 'both': what is common to two lists in order. No conditions but those typed. -/
import Derived.Test.YtkiidmdgdjphjaaGreatMerge
namespace Go.Proofs.YtkiidmdgdjphjaaGreat
open Go.RowKit Go.Sort
set_option maxHeartbeats 3200000 in
theorem mergedBoth_any (p q : List Sp) (v v' : Value) (w : World) (h : Reads w w.heap.size v p) (h' : Reads w w.heap.size v' q) (hl : p.length + q.length ≤ 1000000) :
    Calls Tryz.prog 54 #[v, v', .func (.func 52) #[] #[], .func (.func 55) #[] #[]] w fun e w' => ∃ v', e = .returned v' ∧ Owns w' w.heap.size v' (merge false p q) ∧ Below w.heap.size w w' := by
  go_enter Tryz.func54, Tryz.ntmps54
  go_wp2
  go_loopw [0, 1, 9] (fun v0 v1 v9 wr => ∃ (p' q' o : List Sp) (n : Nat), MInv w wr false p q v0 v1 v9 p' q' o n) (fun v0 v1 _ _ => sliceLen v0 + sliceLen v1)
  case atStart => exact ⟨p, q, [], _, h, h', Owns.nil _ _, rfl, Nat.le_refl _, by simp, Below.refl _ _⟩
  case round =>
    obtain ⟨p', q', o, n, I⟩ := hrel
    obtain ⟨A, c, hv0, hc, hm, hA, hr⟩ := I.r0.is
    obtain ⟨A', c', hv1, hc', hm', hA', hr'⟩ := I.r1.is
    subst hv0 hv1
    unfold maxLen at hm hm'
    have hbw := I.below
    have hbs := hbw.size
    have hf := I.fuel
    have hsm := I.small
    match p', q' with
    | [], [] =>
      have he : o = merge false p q := by
        have := I.eq
        cases n <;> simpa [mergeF] using this
      have hown := I.own
      rw [he] at hown
      have hO := Lib.hid hown
      clear I hown he h h'
      go_wp2
      go_ret
      exact ⟨_, rfl, hO.out, hbw⟩
    | (x, y) :: p2, [] =>
      have hlt : ∀ b q2, ([] : List Sp) = b :: q2 → Lt (x, y) b := fun b q2 e => by cases e
      obtain ⟨b, off, rfl, hb, hcell⟩ := hr (by simp at hc; omega)
      obtain ⟨c0, c1⟩ := hcell 0 x y rfl
      simp only [Nat.zero_mul, Nat.add_zero] at c0 c1
      obtain ⟨n, rfl⟩ : ∃ n', n = n' + 1 := ⟨n - 1, by simp at hf; omega⟩
      have hEq : (o ++ (if false then [(x, y)] else [])) ++ mergeF false n p2 ([]) = merge false p q := by rw [← I.eq, mergeF_A hlt, List.append_assoc]
      have HE := Lib.hid hEq
      have own0 := I.own
      have I0 := I.r0
      have I1 := I.r1
      have rr0 := (I0.below hbw).more hbs
      have rr1 := (I1.below hbw).more hbs
      simp only [List.length_cons] at hc hc' hf rr0 rr1 I0 I1 ⊢
      try simp only [List.length_nil] at hc hc' hf rr0 rr1 I0 I1 ⊢
      have z1 : (1 : Int) ≤ (p2.length : Int) + 1 := by omega
      have z2 : (p2.length : Int) + 1 ≤ (c : Int) := by omega
      have z3 : (0 : Int) ≤ (p2.length : Int) + 1 := by omega
      have z4 : p2.length + 1 ≤ c := hc
      have z5 : 1 ≤ p2.length + 1 := by omega
      clear I h h' hcell hr hr' hEq hlt
      go_wp2_with fail
      refine (gives_int (show headI ((x, y) :: p2) ([]) = -1 from rfl) (headOrder_any _ _ _ _ _ rr0 rr1)).mono ?_
      rintro e w1 ⟨rfl, b1⟩
      have bw1 := below_step hbw b1
      have bws1 := bw1.size
      have d0 := (bw1.cell (p := ⟨b, off, none⟩) hb).trans c0
      have d1 := (bw1.cell (p := ⟨b, off + 1, none⟩) hb).trans c1
      have ne0 := World.new_ne w1 _ d0
      have ne1 := World.new_ne w1 _ d1
      by_cases hc1 : c = 1
      · subst hc1
        have hp0 : p2 = [] := List.eq_nil_of_length_eq_zero (by omega)
        have rd : Reads w w.heap.size (.slice (some ⟨b, off, none⟩) 0 0) p2 := by rw [hp0]; exact Reads.zero _ _ _
        have HP0 := Lib.hid hp0
        clear hp0
        go_wp2_with fail
        go_region_held3 (fun w' => w'.cell? ⟨b, off, none⟩ = some (.int .i64 x) ∧ w'.cell? ⟨b, off + 1, none⟩ = some (.int .i64 y)) (go_keep) (fail)
        go_wp2_with fail
        refine (gives_is (b := false) rfl (inBoth_any true false _)).mono ?_
        rintro e w4 ⟨rfl, b4⟩
        have bw4 := below_step (bw1.alloc bws1 (.cells #[.int .i64 x, .int .i64 y] 53)).drew b4
        have own4 := (((own0.below b1).below ((Below.refl _ _).alloc (Nat.le_refl _) (.cells #[.int .i64 x, .int .i64 y] 53))).below (Below.refl _ _).drew).below b4
        go_wp2
        go_roundw
        case rel => exact ⟨p2, [], o, n, rd, I1, own4, by simpa using HE.out, by first | omega | (simp; omega), by omega, bw4⟩
        case measure => simp [sliceLen] <;> omega
      · have rd := I0.drop (k := 1) (by simp) (some ⟨b, off + 2, none⟩) (fun _ => rfl)
        go_wp2_with fail
        go_region_held3 (fun w' => w'.cell? ⟨b, off, none⟩ = some (.int .i64 x) ∧ w'.cell? ⟨b, off + 1, none⟩ = some (.int .i64 y)) (go_keep) (fail)
        go_wp2_with fail
        refine (gives_is (b := false) rfl (inBoth_any true false _)).mono ?_
        rintro e w4 ⟨rfl, b4⟩
        have bw4 := below_step (bw1.alloc bws1 (.cells #[.int .i64 x, .int .i64 y] 53)).drew b4
        have own4 := (((own0.below b1).below ((Below.refl _ _).alloc (Nat.le_refl _) (.cells #[.int .i64 x, .int .i64 y] 53))).below (Below.refl _ _).drew).below b4
        go_wp2
        go_roundw
        case rel => exact ⟨p2, [], o, n, rd, I1, own4, by simpa using HE.out, by first | omega | (simp; omega), by omega, bw4⟩
        case measure => simp [sliceLen] <;> omega
    | [], (x, y) :: p2 =>
      have hlt : ∀ b q2, ([] : List Sp) = b :: q2 → Lt (x, y) b := fun b q2 e => by cases e
      obtain ⟨b, off, rfl, hb, hcell⟩ := hr' (by simp at hc'; omega)
      obtain ⟨c0, c1⟩ := hcell 0 x y rfl
      simp only [Nat.zero_mul, Nat.add_zero] at c0 c1
      obtain ⟨n, rfl⟩ : ∃ n', n = n' + 1 := ⟨n - 1, by simp at hf; omega⟩
      have hEq : (o ++ (if false then [(x, y)] else [])) ++ mergeF false n ([]) p2 = merge false p q := by rw [← I.eq, mergeF_B hlt, List.append_assoc]
      have HE := Lib.hid hEq
      have own0 := I.own
      have I0 := I.r0
      have I1 := I.r1
      have rr0 := (I0.below hbw).more hbs
      have rr1 := (I1.below hbw).more hbs
      simp only [List.length_cons] at hc hc' hf rr0 rr1 I0 I1 ⊢
      try simp only [List.length_nil] at hc hc' hf rr0 rr1 I0 I1 ⊢
      have z1 : (1 : Int) ≤ (p2.length : Int) + 1 := by omega
      have z2 : (p2.length : Int) + 1 ≤ (c' : Int) := by omega
      have z3 : (0 : Int) ≤ (p2.length : Int) + 1 := by omega
      have z4 : p2.length + 1 ≤ c' := hc'
      have z5 : 1 ≤ p2.length + 1 := by omega
      clear I h h' hcell hr hr' hEq hlt
      go_wp2_with fail
      refine (gives_int (show headI ([]) ((x, y) :: p2) = 1 from rfl) (headOrder_any _ _ _ _ _ rr0 rr1)).mono ?_
      rintro e w1 ⟨rfl, b1⟩
      have bw1 := below_step hbw b1
      have bws1 := bw1.size
      have d0 := (bw1.cell (p := ⟨b, off, none⟩) hb).trans c0
      have d1 := (bw1.cell (p := ⟨b, off + 1, none⟩) hb).trans c1
      have ne0 := World.new_ne w1 _ d0
      have ne1 := World.new_ne w1 _ d1
      by_cases hc1 : c' = 1
      · subst hc1
        have hp0 : p2 = [] := List.eq_nil_of_length_eq_zero (by omega)
        have rd : Reads w w.heap.size (.slice (some ⟨b, off, none⟩) 0 0) p2 := by rw [hp0]; exact Reads.zero _ _ _
        have HP0 := Lib.hid hp0
        clear hp0
        go_wp2_with fail
        go_region_held3 (fun w' => w'.cell? ⟨b, off, none⟩ = some (.int .i64 x) ∧ w'.cell? ⟨b, off + 1, none⟩ = some (.int .i64 y)) (go_keep) (fail)
        go_wp2_with fail
        refine (gives_is (b := false) rfl (inBoth_any false true _)).mono ?_
        rintro e w4 ⟨rfl, b4⟩
        have bw4 := below_step (bw1.alloc bws1 (.cells #[.int .i64 x, .int .i64 y] 53)).drew b4
        have own4 := (((own0.below b1).below ((Below.refl _ _).alloc (Nat.le_refl _) (.cells #[.int .i64 x, .int .i64 y] 53))).below (Below.refl _ _).drew).below b4
        go_wp2
        go_roundw
        case rel => exact ⟨[], p2, o, n, I0, rd, own4, by simpa using HE.out, by first | omega | (simp; omega), by omega, bw4⟩
        case measure => simp [sliceLen] <;> omega
      · have rd := I1.drop (k := 1) (by simp) (some ⟨b, off + 2, none⟩) (fun _ => rfl)
        go_wp2_with fail
        go_region_held3 (fun w' => w'.cell? ⟨b, off, none⟩ = some (.int .i64 x) ∧ w'.cell? ⟨b, off + 1, none⟩ = some (.int .i64 y)) (go_keep) (fail)
        go_wp2_with fail
        refine (gives_is (b := false) rfl (inBoth_any false true _)).mono ?_
        rintro e w4 ⟨rfl, b4⟩
        have bw4 := below_step (bw1.alloc bws1 (.cells #[.int .i64 x, .int .i64 y] 53)).drew b4
        have own4 := (((own0.below b1).below ((Below.refl _ _).alloc (Nat.le_refl _) (.cells #[.int .i64 x, .int .i64 y] 53))).below (Below.refl _ _).drew).below b4
        go_wp2
        go_roundw
        case rel => exact ⟨[], p2, o, n, I0, rd, own4, by simpa using HE.out, by first | omega | (simp; omega), by omega, bw4⟩
        case measure => simp [sliceLen] <;> omega
    | (s1, s2) :: pp, (t1, t2) :: qq =>
      by_cases h1 : Lt (s1, s2) (t1, t2)
      · have hlt : ∀ b q2, (t1, t2) :: qq = b :: q2 → Lt (s1, s2) b := fun b q2 e => by cases e; exact h1
        have hhead := Lib.hid (ordI_m1 h1)
        obtain ⟨x, y, rfl, rfl⟩ : ∃ x y, x = s1 ∧ y = s2 := ⟨_, _, rfl, rfl⟩
        obtain ⟨p2, rfl⟩ : ∃ p2, p2 = pp := ⟨_, rfl⟩
        clear h1
        obtain ⟨b, off, rfl, hb, hcell⟩ := hr (by simp at hc; omega)
        obtain ⟨c0, c1⟩ := hcell 0 x y rfl
        simp only [Nat.zero_mul, Nat.add_zero] at c0 c1
        obtain ⟨n, rfl⟩ : ∃ n', n = n' + 1 := ⟨n - 1, by simp at hf; omega⟩
        have hEq : (o ++ (if false then [(x, y)] else [])) ++ mergeF false n p2 ((t1, t2) :: qq) = merge false p q := by rw [← I.eq, mergeF_A hlt, List.append_assoc]
        have HE := Lib.hid hEq
        have own0 := I.own
        have I0 := I.r0
        have I1 := I.r1
        have rr0 := (I0.below hbw).more hbs
        have rr1 := (I1.below hbw).more hbs
        simp only [List.length_cons] at hc hc' hf rr0 rr1 I0 I1 ⊢
        try simp only [List.length_nil] at hc hc' hf rr0 rr1 I0 I1 ⊢
        have z1 : (1 : Int) ≤ (p2.length : Int) + 1 := by omega
        have z2 : (p2.length : Int) + 1 ≤ (c : Int) := by omega
        have z3 : (0 : Int) ≤ (p2.length : Int) + 1 := by omega
        have z4 : p2.length + 1 ≤ c := hc
        have z5 : 1 ≤ p2.length + 1 := by omega
        clear I h h' hcell hr hr' hEq hlt
        go_wp2_with fail
        refine (gives_int (show headI ((x, y) :: p2) ((t1, t2) :: qq) = -1 from hhead.out) (headOrder_any _ _ _ _ _ rr0 rr1)).mono ?_
        rintro e w1 ⟨rfl, b1⟩
        have bw1 := below_step hbw b1
        have bws1 := bw1.size
        have d0 := (bw1.cell (p := ⟨b, off, none⟩) hb).trans c0
        have d1 := (bw1.cell (p := ⟨b, off + 1, none⟩) hb).trans c1
        have ne0 := World.new_ne w1 _ d0
        have ne1 := World.new_ne w1 _ d1
        by_cases hc1 : c = 1
        · subst hc1
          have hp0 : p2 = [] := List.eq_nil_of_length_eq_zero (by omega)
          have rd : Reads w w.heap.size (.slice (some ⟨b, off, none⟩) 0 0) p2 := by rw [hp0]; exact Reads.zero _ _ _
          have HP0 := Lib.hid hp0
          clear hp0
          go_wp2_with fail
          go_region_held3 (fun w' => w'.cell? ⟨b, off, none⟩ = some (.int .i64 x) ∧ w'.cell? ⟨b, off + 1, none⟩ = some (.int .i64 y)) (go_keep) (fail)
          go_wp2_with fail
          refine (gives_is (b := false) rfl (inBoth_any true false _)).mono ?_
          rintro e w4 ⟨rfl, b4⟩
          have bw4 := below_step (bw1.alloc bws1 (.cells #[.int .i64 x, .int .i64 y] 53)).drew b4
          have own4 := (((own0.below b1).below ((Below.refl _ _).alloc (Nat.le_refl _) (.cells #[.int .i64 x, .int .i64 y] 53))).below (Below.refl _ _).drew).below b4
          go_wp2
          go_roundw
          case rel => exact ⟨p2, (t1, t2) :: qq, o, n, rd, I1, own4, by simpa using HE.out, by first | omega | (simp; omega), by omega, bw4⟩
          case measure => simp [sliceLen] <;> omega
        · have rd := I0.drop (k := 1) (by simp) (some ⟨b, off + 2, none⟩) (fun _ => rfl)
          go_wp2_with fail
          go_region_held3 (fun w' => w'.cell? ⟨b, off, none⟩ = some (.int .i64 x) ∧ w'.cell? ⟨b, off + 1, none⟩ = some (.int .i64 y)) (go_keep) (fail)
          go_wp2_with fail
          refine (gives_is (b := false) rfl (inBoth_any true false _)).mono ?_
          rintro e w4 ⟨rfl, b4⟩
          have bw4 := below_step (bw1.alloc bws1 (.cells #[.int .i64 x, .int .i64 y] 53)).drew b4
          have own4 := (((own0.below b1).below ((Below.refl _ _).alloc (Nat.le_refl _) (.cells #[.int .i64 x, .int .i64 y] 53))).below (Below.refl _ _).drew).below b4
          go_wp2
          go_roundw
          case rel => exact ⟨p2, (t1, t2) :: qq, o, n, rd, I1, own4, by simpa using HE.out, by first | omega | (simp; omega), by omega, bw4⟩
          case measure => simp [sliceLen] <;> omega
      · by_cases h2 : Lt (t1, t2) (s1, s2)
        · have hlt : ∀ a p2, (s1, s2) :: pp = a :: p2 → Lt (t1, t2) a := fun b q2 e => by cases e; exact h2
          have hhead := Lib.hid (ordI_p1 h2)
          obtain ⟨x, y, rfl, rfl⟩ : ∃ x y, x = t1 ∧ y = t2 := ⟨_, _, rfl, rfl⟩
          obtain ⟨p2, rfl⟩ : ∃ p2, p2 = qq := ⟨_, rfl⟩
          clear h1 h2
          obtain ⟨b, off, rfl, hb, hcell⟩ := hr' (by simp at hc'; omega)
          obtain ⟨c0, c1⟩ := hcell 0 x y rfl
          simp only [Nat.zero_mul, Nat.add_zero] at c0 c1
          obtain ⟨n, rfl⟩ : ∃ n', n = n' + 1 := ⟨n - 1, by simp at hf; omega⟩
          have hEq : (o ++ (if false then [(x, y)] else [])) ++ mergeF false n ((s1, s2) :: pp) p2 = merge false p q := by rw [← I.eq, mergeF_B hlt, List.append_assoc]
          have HE := Lib.hid hEq
          have own0 := I.own
          have I0 := I.r0
          have I1 := I.r1
          have rr0 := (I0.below hbw).more hbs
          have rr1 := (I1.below hbw).more hbs
          simp only [List.length_cons] at hc hc' hf rr0 rr1 I0 I1 ⊢
          try simp only [List.length_nil] at hc hc' hf rr0 rr1 I0 I1 ⊢
          have z1 : (1 : Int) ≤ (p2.length : Int) + 1 := by omega
          have z2 : (p2.length : Int) + 1 ≤ (c' : Int) := by omega
          have z3 : (0 : Int) ≤ (p2.length : Int) + 1 := by omega
          have z4 : p2.length + 1 ≤ c' := hc'
          have z5 : 1 ≤ p2.length + 1 := by omega
          clear I h h' hcell hr hr' hEq hlt
          go_wp2_with fail
          refine (gives_int (show headI ((s1, s2) :: pp) ((x, y) :: p2) = 1 from hhead.out) (headOrder_any _ _ _ _ _ rr0 rr1)).mono ?_
          rintro e w1 ⟨rfl, b1⟩
          have bw1 := below_step hbw b1
          have bws1 := bw1.size
          have d0 := (bw1.cell (p := ⟨b, off, none⟩) hb).trans c0
          have d1 := (bw1.cell (p := ⟨b, off + 1, none⟩) hb).trans c1
          have ne0 := World.new_ne w1 _ d0
          have ne1 := World.new_ne w1 _ d1
          by_cases hc1 : c' = 1
          · subst hc1
            have hp0 : p2 = [] := List.eq_nil_of_length_eq_zero (by omega)
            have rd : Reads w w.heap.size (.slice (some ⟨b, off, none⟩) 0 0) p2 := by rw [hp0]; exact Reads.zero _ _ _
            have HP0 := Lib.hid hp0
            clear hp0
            go_wp2_with fail
            go_region_held3 (fun w' => w'.cell? ⟨b, off, none⟩ = some (.int .i64 x) ∧ w'.cell? ⟨b, off + 1, none⟩ = some (.int .i64 y)) (go_keep) (fail)
            go_wp2_with fail
            refine (gives_is (b := false) rfl (inBoth_any false true _)).mono ?_
            rintro e w4 ⟨rfl, b4⟩
            have bw4 := below_step (bw1.alloc bws1 (.cells #[.int .i64 x, .int .i64 y] 53)).drew b4
            have own4 := (((own0.below b1).below ((Below.refl _ _).alloc (Nat.le_refl _) (.cells #[.int .i64 x, .int .i64 y] 53))).below (Below.refl _ _).drew).below b4
            go_wp2
            go_roundw
            case rel => exact ⟨(s1, s2) :: pp, p2, o, n, I0, rd, own4, by simpa using HE.out, by first | omega | (simp; omega), by omega, bw4⟩
            case measure => simp [sliceLen] <;> omega
          · have rd := I1.drop (k := 1) (by simp) (some ⟨b, off + 2, none⟩) (fun _ => rfl)
            go_wp2_with fail
            go_region_held3 (fun w' => w'.cell? ⟨b, off, none⟩ = some (.int .i64 x) ∧ w'.cell? ⟨b, off + 1, none⟩ = some (.int .i64 y)) (go_keep) (fail)
            go_wp2_with fail
            refine (gives_is (b := false) rfl (inBoth_any false true _)).mono ?_
            rintro e w4 ⟨rfl, b4⟩
            have bw4 := below_step (bw1.alloc bws1 (.cells #[.int .i64 x, .int .i64 y] 53)).drew b4
            have own4 := (((own0.below b1).below ((Below.refl _ _).alloc (Nat.le_refl _) (.cells #[.int .i64 x, .int .i64 y] 53))).below (Below.refl _ _).drew).below b4
            go_wp2
            go_roundw
            case rel => exact ⟨(s1, s2) :: pp, p2, o, n, I0, rd, own4, by simpa using HE.out, by first | omega | (simp; omega), by omega, bw4⟩
            case measure => simp [sliceLen] <;> omega
        · have he : (s1, s2) = (t1, t2) := by
            rcases lt_total (s1, s2) (t1, t2) with h | h | h
            · exact absurd h h1
            · exact h
            · exact absurd h h2
          obtain ⟨rfl, rfl⟩ := Prod.mk.inj he
          clear h1 h2 he
          obtain ⟨b, off, rfl, hb, hcell⟩ := hr (by simp at hc; omega)
          obtain ⟨b', off', rfl, hb', hcell'⟩ := hr' (by simp at hc'; omega)
          obtain ⟨c0, c1⟩ := hcell 0 s1 s2 rfl
          obtain ⟨c2, c3⟩ := hcell' 0 s1 s2 rfl
          simp only [Nat.zero_mul, Nat.add_zero] at c0 c1 c2 c3
          obtain ⟨n, rfl⟩ : ∃ n', n = n' + 1 := ⟨n - 1, by simp at hf; omega⟩
          have hEq : (o ++ [(s1, s2)]) ++ mergeF false n pp qq = merge false p q := by rw [← I.eq, mergeF_AB, List.append_assoc]
          have HE := Lib.hid hEq
          have hhead := Lib.hid (show headI ((s1, s2) :: pp) ((s1, s2) :: qq) = 0 from ordI_zero.2 rfl)
          have own0 := I.own
          have I0 := I.r0
          have I1 := I.r1
          have rr0 := (I0.below hbw).more hbs
          have rr1 := (I1.below hbw).more hbs
          simp only [List.length_cons] at hc hc' hf rr0 rr1 I0 I1 ⊢
          have z1 : (1 : Int) ≤ (pp.length : Int) + 1 := by omega
          have z2 : (pp.length : Int) + 1 ≤ (c : Int) := by omega
          have z3 : (0 : Int) ≤ (pp.length : Int) + 1 := by omega
          have z4 : pp.length + 1 ≤ c := hc
          have z5 : 1 ≤ pp.length + 1 := by omega
          have y1 : (1 : Int) ≤ (qq.length : Int) + 1 := by omega
          have y2 : (qq.length : Int) + 1 ≤ (c' : Int) := by omega
          have y3 : (0 : Int) ≤ (qq.length : Int) + 1 := by omega
          have y4 : qq.length + 1 ≤ c' := hc'
          have y5 : 1 ≤ qq.length + 1 := by omega
          clear I h h' hcell hcell' hr hr' hEq
          go_wp2_with fail
          refine (gives_int hhead.out (headOrder_any _ _ _ _ _ rr0 rr1)).mono ?_
          rintro e w1 ⟨rfl, b1⟩
          have bw1 := below_step hbw b1
          have bws1 := bw1.size
          have d0 := (bw1.cell (p := ⟨b, off, none⟩) hb).trans c0
          have d1 := (bw1.cell (p := ⟨b, off + 1, none⟩) hb).trans c1
          have d2 := (bw1.cell (p := ⟨b', off', none⟩) hb').trans c2
          have d3 := (bw1.cell (p := ⟨b', off' + 1, none⟩) hb').trans c3
          have ne0 := World.new_ne w1 _ d0
          have ne1 := World.new_ne w1 _ d1
          have ne2 := World.new_ne w1 _ d2
          have ne3 := World.new_ne w1 _ d3
          clear c0 c1 c2 c3
          by_cases hc1 : c = 1
          · subst hc1
            have hp0 : pp = [] := List.eq_nil_of_length_eq_zero (by omega)
            have rd : Reads w w.heap.size (.slice (some ⟨b, off, none⟩) 0 0) pp := by rw [hp0]; exact Reads.zero _ _ _
            have HP0 := Lib.hid hp0
            clear hp0
            by_cases hc2 : c' = 1
            · subst hc2
              have hp1 : qq = [] := List.eq_nil_of_length_eq_zero (by omega)
              have rd' : Reads w w.heap.size (.slice (some ⟨b', off', none⟩) 0 0) qq := by rw [hp1]; exact Reads.zero _ _ _
              have HP1 := Lib.hid hp1
              clear hp1
              go_wp2_with fail
              go_region_held3 (fun w' => w'.cell? ⟨b, off, none⟩ = some (.int .i64 s1) ∧ w'.cell? ⟨b, off + 1, none⟩ = some (.int .i64 s2)) (go_keep) (fail)
              go_wp2_with fail
              go_region_held3 (fun w' => w'.cell? ⟨b', off', none⟩ = some (.int .i64 s1) ∧ w'.cell? ⟨b', off' + 1, none⟩ = some (.int .i64 s2)) (go_keep) (fail)
              go_wp2_with fail
              refine (gives_is (b := true) rfl (inBoth_any true true _)).mono ?_
              rintro e w4 ⟨rfl, b4⟩
              have bw4 := below_step (bw1.alloc bws1 (.cells #[.int .i64 s1, .int .i64 s2] 53)).drew.drew b4
              have own4 := ((((own0.below b1).below ((Below.refl _ _).alloc (Nat.le_refl _) (.cells #[.int .i64 s1, .int .i64 s2] 53))).below (Below.refl _ _).drew).below (Below.refl _ _).drew).below b4
              have e0 := (b4.cell (p := ⟨w1.heap.size, 0, none⟩) (by simp)).trans (show _ = some (Value.int .i64 s1) by simp [go_sem])
              have e1 := (b4.cell (p := ⟨w1.heap.size, 1, none⟩) (by simp)).trans (show _ = some (Value.int .i64 s2) by simp [go_sem])
              have own5 := own4.below ((Below.refl _ _).alloc (Nat.le_refl _) (.cells #[.int .i64 s1, .int .i64 s2] 53))
              have bws4 := bw4.size
              go_wp2_with (at_builtin; refine wpList_append_spots (qs := [(s1, s2)]) own5 (Reads.one (g := w4.heap.size) (by simp [go_sem]) (by simp [go_sem])) (by simp; omega) (by simp; omega) rfl _ _ rfl rfl rfl ?_)
              intro v5 w5 o5 g5 _
              have bw5 := own5.below_app (bw4.alloc bws4 _) (by simp; omega) g5
              go_wp2
              go_roundw
              case rel => exact ⟨pp, qq, o ++ [(s1, s2)], n, rd, rd', o5, HE.out, by first | omega | (simp; omega), by simp; omega, bw5⟩
              case measure => simp [sliceLen] <;> omega
            · have rd' := I1.drop (k := 1) (by simp) (some ⟨b', off' + 2, none⟩) (fun _ => rfl)
              go_wp2_with fail
              go_region_held3 (fun w' => w'.cell? ⟨b, off, none⟩ = some (.int .i64 s1) ∧ w'.cell? ⟨b, off + 1, none⟩ = some (.int .i64 s2)) (go_keep) (fail)
              go_wp2_with fail
              go_region_held3 (fun w' => w'.cell? ⟨b', off', none⟩ = some (.int .i64 s1) ∧ w'.cell? ⟨b', off' + 1, none⟩ = some (.int .i64 s2)) (go_keep) (fail)
              go_wp2_with fail
              refine (gives_is (b := true) rfl (inBoth_any true true _)).mono ?_
              rintro e w4 ⟨rfl, b4⟩
              have bw4 := below_step (bw1.alloc bws1 (.cells #[.int .i64 s1, .int .i64 s2] 53)).drew.drew b4
              have own4 := ((((own0.below b1).below ((Below.refl _ _).alloc (Nat.le_refl _) (.cells #[.int .i64 s1, .int .i64 s2] 53))).below (Below.refl _ _).drew).below (Below.refl _ _).drew).below b4
              have e0 := (b4.cell (p := ⟨w1.heap.size, 0, none⟩) (by simp)).trans (show _ = some (Value.int .i64 s1) by simp [go_sem])
              have e1 := (b4.cell (p := ⟨w1.heap.size, 1, none⟩) (by simp)).trans (show _ = some (Value.int .i64 s2) by simp [go_sem])
              have own5 := own4.below ((Below.refl _ _).alloc (Nat.le_refl _) (.cells #[.int .i64 s1, .int .i64 s2] 53))
              have bws4 := bw4.size
              go_wp2_with (at_builtin; refine wpList_append_spots (qs := [(s1, s2)]) own5 (Reads.one (g := w4.heap.size) (by simp [go_sem]) (by simp [go_sem])) (by simp; omega) (by simp; omega) rfl _ _ rfl rfl rfl ?_)
              intro v5 w5 o5 g5 _
              have bw5 := own5.below_app (bw4.alloc bws4 _) (by simp; omega) g5
              go_wp2
              go_roundw
              case rel => exact ⟨pp, qq, o ++ [(s1, s2)], n, rd, rd', o5, HE.out, by first | omega | (simp; omega), by simp; omega, bw5⟩
              case measure => simp [sliceLen] <;> omega
          · have rd := I0.drop (k := 1) (by simp) (some ⟨b, off + 2, none⟩) (fun _ => rfl)
            by_cases hc2 : c' = 1
            · subst hc2
              have hp1 : qq = [] := List.eq_nil_of_length_eq_zero (by omega)
              have rd' : Reads w w.heap.size (.slice (some ⟨b', off', none⟩) 0 0) qq := by rw [hp1]; exact Reads.zero _ _ _
              have HP1 := Lib.hid hp1
              clear hp1
              go_wp2_with fail
              go_region_held3 (fun w' => w'.cell? ⟨b, off, none⟩ = some (.int .i64 s1) ∧ w'.cell? ⟨b, off + 1, none⟩ = some (.int .i64 s2)) (go_keep) (fail)
              go_wp2_with fail
              go_region_held3 (fun w' => w'.cell? ⟨b', off', none⟩ = some (.int .i64 s1) ∧ w'.cell? ⟨b', off' + 1, none⟩ = some (.int .i64 s2)) (go_keep) (fail)
              go_wp2_with fail
              refine (gives_is (b := true) rfl (inBoth_any true true _)).mono ?_
              rintro e w4 ⟨rfl, b4⟩
              have bw4 := below_step (bw1.alloc bws1 (.cells #[.int .i64 s1, .int .i64 s2] 53)).drew.drew b4
              have own4 := ((((own0.below b1).below ((Below.refl _ _).alloc (Nat.le_refl _) (.cells #[.int .i64 s1, .int .i64 s2] 53))).below (Below.refl _ _).drew).below (Below.refl _ _).drew).below b4
              have e0 := (b4.cell (p := ⟨w1.heap.size, 0, none⟩) (by simp)).trans (show _ = some (Value.int .i64 s1) by simp [go_sem])
              have e1 := (b4.cell (p := ⟨w1.heap.size, 1, none⟩) (by simp)).trans (show _ = some (Value.int .i64 s2) by simp [go_sem])
              have own5 := own4.below ((Below.refl _ _).alloc (Nat.le_refl _) (.cells #[.int .i64 s1, .int .i64 s2] 53))
              have bws4 := bw4.size
              go_wp2_with (at_builtin; refine wpList_append_spots (qs := [(s1, s2)]) own5 (Reads.one (g := w4.heap.size) (by simp [go_sem]) (by simp [go_sem])) (by simp; omega) (by simp; omega) rfl _ _ rfl rfl rfl ?_)
              intro v5 w5 o5 g5 _
              have bw5 := own5.below_app (bw4.alloc bws4 _) (by simp; omega) g5
              go_wp2
              go_roundw
              case rel => exact ⟨pp, qq, o ++ [(s1, s2)], n, rd, rd', o5, HE.out, by first | omega | (simp; omega), by simp; omega, bw5⟩
              case measure => simp [sliceLen] <;> omega
            · have rd' := I1.drop (k := 1) (by simp) (some ⟨b', off' + 2, none⟩) (fun _ => rfl)
              go_wp2_with fail
              go_region_held3 (fun w' => w'.cell? ⟨b, off, none⟩ = some (.int .i64 s1) ∧ w'.cell? ⟨b, off + 1, none⟩ = some (.int .i64 s2)) (go_keep) (fail)
              go_wp2_with fail
              go_region_held3 (fun w' => w'.cell? ⟨b', off', none⟩ = some (.int .i64 s1) ∧ w'.cell? ⟨b', off' + 1, none⟩ = some (.int .i64 s2)) (go_keep) (fail)
              go_wp2_with fail
              refine (gives_is (b := true) rfl (inBoth_any true true _)).mono ?_
              rintro e w4 ⟨rfl, b4⟩
              have bw4 := below_step (bw1.alloc bws1 (.cells #[.int .i64 s1, .int .i64 s2] 53)).drew.drew b4
              have own4 := ((((own0.below b1).below ((Below.refl _ _).alloc (Nat.le_refl _) (.cells #[.int .i64 s1, .int .i64 s2] 53))).below (Below.refl _ _).drew).below (Below.refl _ _).drew).below b4
              have e0 := (b4.cell (p := ⟨w1.heap.size, 0, none⟩) (by simp)).trans (show _ = some (Value.int .i64 s1) by simp [go_sem])
              have e1 := (b4.cell (p := ⟨w1.heap.size, 1, none⟩) (by simp)).trans (show _ = some (Value.int .i64 s2) by simp [go_sem])
              have own5 := own4.below ((Below.refl _ _).alloc (Nat.le_refl _) (.cells #[.int .i64 s1, .int .i64 s2] 53))
              have bws4 := bw4.size
              go_wp2_with (at_builtin; refine wpList_append_spots (qs := [(s1, s2)]) own5 (Reads.one (g := w4.heap.size) (by simp [go_sem]) (by simp [go_sem])) (by simp; omega) (by simp; omega) rfl _ _ rfl rfl rfl ?_)
              intro v5 w5 o5 g5 _
              have bw5 := own5.below_app (bw4.alloc bws4 _) (by simp; omega) g5
              go_wp2
              go_roundw
              case rel => exact ⟨pp, qq, o ++ [(s1, s2)], n, rd, rd', o5, HE.out, by first | omega | (simp; omega), by simp; omega, bw5⟩
              case measure => simp [sliceLen] <;> omega
end Go.Proofs.YtkiidmdgdjphjaaGreat
