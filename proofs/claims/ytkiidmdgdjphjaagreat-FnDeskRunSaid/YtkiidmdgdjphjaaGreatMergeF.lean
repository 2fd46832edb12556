/- The program's merge with 'the first alone': what of one list in order is none of another one; lessAll. No conditions but those typed. -/
import Derived.Test.YtkiidmdgdjphjaaGreatMerge
import Derived.Test.YtkiidmdgdjphjaaGreatPlain
namespace Go.Proofs.YtkiidmdgdjphjaaGreat
open Go.RowKit Go.Sort

def diffF : Nat → List Sp → List Sp → List Sp
  | 0, _, _ => []
  | _ + 1, [], [] => []
  | n + 1, [], _ :: q => diffF n [] q
  | n + 1, a :: p, [] => a :: diffF n p []
  | n + 1, a :: p, b :: q => if Lt a b then a :: diffF n p (b :: q) else if Lt b a then diffF n (a :: p) q else diffF n p q
def lessM (p q : List Sp) : List Sp := diffF (p.length + q.length) p q
theorem diffF_A {n : Nat} {a : Sp} {p q : List Sp} (h : ∀ b q2, q = b :: q2 → Lt a b) : diffF (n + 1) (a :: p) q = [a] ++ diffF n p q := by
  cases q with
  | nil => simp [diffF]
  | cons b q => simp [diffF, h b q rfl]
theorem diffF_B {n : Nat} {b : Sp} {p q : List Sp} (h : ∀ a p2, p = a :: p2 → Lt b a) : diffF (n + 1) p (b :: q) = diffF n p q := by
  cases p with
  | nil => simp [diffF]
  | cons a p =>
    have hl := h a p rfl
    simp [diffF, hl, lt_asymm hl]
theorem diffF_AB {n : Nat} {a : Sp} {p q : List Sp} : diffF (n + 1) (a :: p) (a :: q) = diffF n p q := by simp [diffF, lt_irrefl]
theorem diffF_nil : ∀ (n : Nat) (q : List Sp), diffF n [] q = []
  | 0, _ => rfl
  | _ + 1, [] => rfl
  | n + 1, _ :: q => diffF_nil n q
theorem lessL_not {a : Sp} {p q : List Sp} (h : ¬ a ∈ q) : lessL (a :: p) q = a :: lessL p q := List.filter_cons_of_pos (by simpa using h)
theorem lessL_in {a : Sp} {p q : List Sp} (h : a ∈ q) : lessL (a :: p) q = lessL p q := List.filter_cons_of_neg (by simpa using h)
theorem lessL_skip {b : Sp} {p q : List Sp} (h : ¬ b ∈ p) : lessL p (b :: q) = lessL p q := List.filter_congr fun x hx => by
  have : x ≠ b := fun e => h (e ▸ hx)
  simp [this]
theorem diffF_is : ∀ {n : Nat} {p q : List Sp}, Sorted p → Sorted q → p.length + q.length ≤ n → diffF n p q = lessL p q
  | 0, p, q, _, _, hn => by
    obtain rfl := List.eq_nil_of_length_eq_zero (show p.length = 0 by omega)
    rfl
  | n + 1, [], q, _, _, _ => diffF_nil _ _
  | n + 1, a :: p, [], hp, hq, hn => by
    rw [diffF_A (fun b q2 e => by cases e), diffF_is (sorted_cons.1 hp).2 hq (by simp only [List.length_cons, List.length_nil] at hn ⊢; omega), lessL_not (by simp)]; rfl
  | n + 1, a :: p, b :: q, hp, hq, hn => by
    simp only [List.length_cons] at hn
    have h1 := sorted_cons.1 hp
    have h2 := sorted_cons.1 hq
    rcases lt_total a b with h | h | h
    · rw [diffF_A (fun c q2 e => by cases e; exact h), diffF_is h1.2 hq (by simp only [List.length_cons]; omega), lessL_not (fun hm => by
        rcases List.mem_cons.1 hm with e | e
        · rw [e] at h; exact lt_irrefl _ h
        · exact lt_asymm h (h2.1 _ e))]; rfl
    · subst h
      rw [diffF_AB, diffF_is h1.2 h2.2 (by omega), lessL_in (List.mem_cons_self ..), lessL_skip (fun hm => lt_irrefl _ (h1.1 _ hm))]
    · rw [diffF_B (fun c p2 e => by cases e; exact h), diffF_is hp h2.2 (by simp only [List.length_cons]; omega), lessL_skip (fun hm => by
        rcases List.mem_cons.1 hm with e | e
        · rw [e] at h; exact lt_irrefl _ h
        · exact lt_asymm h (h1.1 _ e))]
theorem lessM_is {p q : List Sp} (hp : Sorted p) (hq : Sorted q) : lessM p q = lessL p q := diffF_is hp hq (Nat.le_refl _)
theorem inFirstAlone_any (a b : Bool) (w : World) : Calls Tryz.prog 81 #[.bool a, .bool b] w (Gives (.bool (a && !b)) w) := by
  cases a <;> cases b
  all_goals
    go_enter Tryz.func81, Tryz.ntmps81
    go_wp2
    go_ret
    exact ⟨rfl, Below.refl _ _⟩
/-- the relation between two rounds -/
structure DInv (w wr : World) (p q : List Sp) (v0 v1 v9 : Value) (p' q' o : List Sp) (n : Nat) : Prop where
  r0 : Reads w w.heap.size v0 p'
  r1 : Reads w w.heap.size v1 q'
  own : Owns wr w.heap.size v9 o
  eq : o ++ diffF n p' q' = lessM p q
  fuel : p'.length + q'.length ≤ n
  small : o.length + n ≤ p.length + q.length
  below : Below w.heap.size w wr

set_option maxHeartbeats 3200000 in
theorem mergedAlone_any (p q : List Sp) (v v' : Value) (w : World) (h : Reads w w.heap.size v p) (h' : Reads w w.heap.size v' q) (hl : p.length + q.length ≤ 1000000) :
    Calls Tryz.prog 54 #[v, v', .func (.func 52) #[] #[], .func (.func 81) #[] #[]] w fun e w' => ∃ v', e = .returned v' ∧ Owns w' w.heap.size v' (lessM p q) ∧ Below w.heap.size w w' := by
  go_enter Tryz.func54, Tryz.ntmps54
  go_wp2
  go_loopw [0, 1, 9] (fun v0 v1 v9 wr => ∃ (p' q' o : List Sp) (n : Nat), DInv w wr p q v0 v1 v9 p' q' o n) (fun v0 v1 _ _ => sliceLen v0 + sliceLen v1)
  case atStart => exact ⟨p, q, [], _, h, h', Owns.nil _ _, rfl, Nat.le_refl _, by simp, Below.refl _ _⟩
  case round =>
    obtain ⟨p', q', o, n, I⟩ := hrel
    obtain ⟨A, c, hv0, hc, hm, hA, hr⟩ := I.r0.is
    obtain ⟨A', c', hv1, hc', hm', hA', hr'⟩ := I.r1.is
    subst hv0 hv1
    unfold maxLen at hm hm'
    have hbw := I.below
    have hbs := hbw.size
    have hf := I.fuel
    have hsm := I.small
    match p', q' with
    | [], [] =>
      have he : o = lessM p q := by
        have := I.eq
        cases n <;> simpa [diffF] using this
      have hown := I.own
      rw [he] at hown
      have hO := Lib.hid hown
      clear I hown he h h'
      go_wp2
      go_ret
      exact ⟨_, rfl, hO.out, hbw⟩
    | (x, y) :: p2, [] =>
      have hlt : ∀ b q2, ([] : List Sp) = b :: q2 → Lt (x, y) b := fun b q2 e => by cases e
      obtain ⟨b, off, rfl, hb, hcell⟩ := hr (by simp at hc; omega)
      obtain ⟨c0, c1⟩ := hcell 0 x y rfl
      simp only [Nat.zero_mul, Nat.add_zero] at c0 c1
      obtain ⟨n, rfl⟩ : ∃ n', n = n' + 1 := ⟨n - 1, by simp at hf; omega⟩
      have hEq : (o ++ (if true then [(x, y)] else [])) ++ diffF n p2 ([]) = lessM p q := by rw [← I.eq, diffF_A hlt, List.append_assoc]; rfl
      have HE := Lib.hid hEq
      have own0 := I.own
      have I0 := I.r0
      have I1 := I.r1
      have rr0 := (I0.below hbw).more hbs
      have rr1 := (I1.below hbw).more hbs
      simp only [List.length_cons] at hc hc' hf rr0 rr1 I0 I1 ⊢
      try simp only [List.length_nil] at hc hc' hf rr0 rr1 I0 I1 ⊢
      have z1 : (1 : Int) ≤ (p2.length : Int) + 1 := by omega
      have z2 : (p2.length : Int) + 1 ≤ (c : Int) := by omega
      have z3 : (0 : Int) ≤ (p2.length : Int) + 1 := by omega
      have z4 : p2.length + 1 ≤ c := hc
      have z5 : 1 ≤ p2.length + 1 := by omega
      clear I h h' hcell hr hr' hEq hlt
      go_wp2_with fail
      refine (gives_int (show headI ((x, y) :: p2) ([]) = -1 from rfl) (headOrder_any _ _ _ _ _ rr0 rr1)).mono ?_
      rintro e w1 ⟨rfl, b1⟩
      have bw1 := below_step hbw b1
      have bws1 := bw1.size
      have d0 := (bw1.cell (p := ⟨b, off, none⟩) hb).trans c0
      have d1 := (bw1.cell (p := ⟨b, off + 1, none⟩) hb).trans c1
      have ne0 := World.new_ne w1 _ d0
      have ne1 := World.new_ne w1 _ d1
      by_cases hc1 : c = 1
      · subst hc1
        have hp0 : p2 = [] := List.eq_nil_of_length_eq_zero (by omega)
        have rd : Reads w w.heap.size (.slice (some ⟨b, off, none⟩) 0 0) p2 := by rw [hp0]; exact Reads.zero _ _ _
        have HP0 := Lib.hid hp0
        clear hp0
        go_wp2_with fail
        go_region_held3 (fun w' => w'.cell? ⟨b, off, none⟩ = some (.int .i64 x) ∧ w'.cell? ⟨b, off + 1, none⟩ = some (.int .i64 y)) (go_keep) (fail)
        go_wp2_with fail
        refine (gives_is (b := true) rfl (inFirstAlone_any true false _)).mono ?_
        rintro e w4 ⟨rfl, b4⟩
        have bw4 := below_step (bw1.alloc bws1 (.cells #[.int .i64 x, .int .i64 y] 53)).drew b4
        have own4 := (((own0.below b1).below ((Below.refl _ _).alloc (Nat.le_refl _) (.cells #[.int .i64 x, .int .i64 y] 53))).below (Below.refl _ _).drew).below b4
        have e0 := (b4.cell (p := ⟨w1.heap.size, 0, none⟩) (by simp)).trans (show _ = some (Value.int .i64 x) by simp [go_sem])
        have e1 := (b4.cell (p := ⟨w1.heap.size, 1, none⟩) (by simp)).trans (show _ = some (Value.int .i64 y) by simp [go_sem])
        have own5 := own4.below ((Below.refl _ _).alloc (Nat.le_refl _) (.cells #[.int .i64 x, .int .i64 y] 53))
        have bws4 := bw4.size
        go_wp2_with (at_builtin; refine wpList_append_spots (qs := [(x, y)]) own5 (Reads.one (g := w4.heap.size) (by simp [go_sem]) (by simp [go_sem])) (by simp; omega) (by simp; omega) rfl _ _ rfl rfl rfl ?_)
        intro v5 w5 o5 g5 _
        have bw5 := own5.below_app (bw4.alloc bws4 _) (by simp; omega) g5
        go_wp2
        go_roundw
        case rel => exact ⟨p2, [], o ++ [(x, y)], n, rd, I1, o5, HE.out, by first | omega | (simp; omega), by simp; omega, bw5⟩
        case measure => simp [sliceLen] <;> omega
      · have rd := I0.drop (k := 1) (by simp) (some ⟨b, off + 2, none⟩) (fun _ => rfl)
        go_wp2_with fail
        go_region_held3 (fun w' => w'.cell? ⟨b, off, none⟩ = some (.int .i64 x) ∧ w'.cell? ⟨b, off + 1, none⟩ = some (.int .i64 y)) (go_keep) (fail)
        go_wp2_with fail
        refine (gives_is (b := true) rfl (inFirstAlone_any true false _)).mono ?_
        rintro e w4 ⟨rfl, b4⟩
        have bw4 := below_step (bw1.alloc bws1 (.cells #[.int .i64 x, .int .i64 y] 53)).drew b4
        have own4 := (((own0.below b1).below ((Below.refl _ _).alloc (Nat.le_refl _) (.cells #[.int .i64 x, .int .i64 y] 53))).below (Below.refl _ _).drew).below b4
        have e0 := (b4.cell (p := ⟨w1.heap.size, 0, none⟩) (by simp)).trans (show _ = some (Value.int .i64 x) by simp [go_sem])
        have e1 := (b4.cell (p := ⟨w1.heap.size, 1, none⟩) (by simp)).trans (show _ = some (Value.int .i64 y) by simp [go_sem])
        have own5 := own4.below ((Below.refl _ _).alloc (Nat.le_refl _) (.cells #[.int .i64 x, .int .i64 y] 53))
        have bws4 := bw4.size
        go_wp2_with (at_builtin; refine wpList_append_spots (qs := [(x, y)]) own5 (Reads.one (g := w4.heap.size) (by simp [go_sem]) (by simp [go_sem])) (by simp; omega) (by simp; omega) rfl _ _ rfl rfl rfl ?_)
        intro v5 w5 o5 g5 _
        have bw5 := own5.below_app (bw4.alloc bws4 _) (by simp; omega) g5
        go_wp2
        go_roundw
        case rel => exact ⟨p2, [], o ++ [(x, y)], n, rd, I1, o5, HE.out, by first | omega | (simp; omega), by simp; omega, bw5⟩
        case measure => simp [sliceLen] <;> omega
    | [], (x, y) :: p2 =>
      have hlt : ∀ b q2, ([] : List Sp) = b :: q2 → Lt (x, y) b := fun b q2 e => by cases e
      obtain ⟨b, off, rfl, hb, hcell⟩ := hr' (by simp at hc'; omega)
      obtain ⟨c0, c1⟩ := hcell 0 x y rfl
      simp only [Nat.zero_mul, Nat.add_zero] at c0 c1
      obtain ⟨n, rfl⟩ : ∃ n', n = n' + 1 := ⟨n - 1, by simp at hf; omega⟩
      have hEq : (o ++ (if false then [(x, y)] else [])) ++ diffF n ([]) p2 = lessM p q := by rw [← I.eq, diffF_B hlt]; simp
      have HE := Lib.hid hEq
      have own0 := I.own
      have I0 := I.r0
      have I1 := I.r1
      have rr0 := (I0.below hbw).more hbs
      have rr1 := (I1.below hbw).more hbs
      simp only [List.length_cons] at hc hc' hf rr0 rr1 I0 I1 ⊢
      try simp only [List.length_nil] at hc hc' hf rr0 rr1 I0 I1 ⊢
      have z1 : (1 : Int) ≤ (p2.length : Int) + 1 := by omega
      have z2 : (p2.length : Int) + 1 ≤ (c' : Int) := by omega
      have z3 : (0 : Int) ≤ (p2.length : Int) + 1 := by omega
      have z4 : p2.length + 1 ≤ c' := hc'
      have z5 : 1 ≤ p2.length + 1 := by omega
      clear I h h' hcell hr hr' hEq hlt
      go_wp2_with fail
      refine (gives_int (show headI ([]) ((x, y) :: p2) = 1 from rfl) (headOrder_any _ _ _ _ _ rr0 rr1)).mono ?_
      rintro e w1 ⟨rfl, b1⟩
      have bw1 := below_step hbw b1
      have bws1 := bw1.size
      have d0 := (bw1.cell (p := ⟨b, off, none⟩) hb).trans c0
      have d1 := (bw1.cell (p := ⟨b, off + 1, none⟩) hb).trans c1
      have ne0 := World.new_ne w1 _ d0
      have ne1 := World.new_ne w1 _ d1
      by_cases hc1 : c' = 1
      · subst hc1
        have hp0 : p2 = [] := List.eq_nil_of_length_eq_zero (by omega)
        have rd : Reads w w.heap.size (.slice (some ⟨b, off, none⟩) 0 0) p2 := by rw [hp0]; exact Reads.zero _ _ _
        have HP0 := Lib.hid hp0
        clear hp0
        go_wp2_with fail
        go_region_held3 (fun w' => w'.cell? ⟨b, off, none⟩ = some (.int .i64 x) ∧ w'.cell? ⟨b, off + 1, none⟩ = some (.int .i64 y)) (go_keep) (fail)
        go_wp2_with fail
        refine (gives_is (b := false) rfl (inFirstAlone_any false true _)).mono ?_
        rintro e w4 ⟨rfl, b4⟩
        have bw4 := below_step (bw1.alloc bws1 (.cells #[.int .i64 x, .int .i64 y] 53)).drew b4
        have own4 := (((own0.below b1).below ((Below.refl _ _).alloc (Nat.le_refl _) (.cells #[.int .i64 x, .int .i64 y] 53))).below (Below.refl _ _).drew).below b4
        go_wp2
        go_roundw
        case rel => exact ⟨[], p2, o, n, I0, rd, own4, by simpa using HE.out, by first | omega | (simp; omega), by omega, bw4⟩
        case measure => simp [sliceLen] <;> omega
      · have rd := I1.drop (k := 1) (by simp) (some ⟨b, off + 2, none⟩) (fun _ => rfl)
        go_wp2_with fail
        go_region_held3 (fun w' => w'.cell? ⟨b, off, none⟩ = some (.int .i64 x) ∧ w'.cell? ⟨b, off + 1, none⟩ = some (.int .i64 y)) (go_keep) (fail)
        go_wp2_with fail
        refine (gives_is (b := false) rfl (inFirstAlone_any false true _)).mono ?_
        rintro e w4 ⟨rfl, b4⟩
        have bw4 := below_step (bw1.alloc bws1 (.cells #[.int .i64 x, .int .i64 y] 53)).drew b4
        have own4 := (((own0.below b1).below ((Below.refl _ _).alloc (Nat.le_refl _) (.cells #[.int .i64 x, .int .i64 y] 53))).below (Below.refl _ _).drew).below b4
        go_wp2
        go_roundw
        case rel => exact ⟨[], p2, o, n, I0, rd, own4, by simpa using HE.out, by first | omega | (simp; omega), by omega, bw4⟩
        case measure => simp [sliceLen] <;> omega
    | (s1, s2) :: pp, (t1, t2) :: qq =>
      by_cases h1 : Lt (s1, s2) (t1, t2)
      · have hlt : ∀ b q2, (t1, t2) :: qq = b :: q2 → Lt (s1, s2) b := fun b q2 e => by cases e; exact h1
        have hhead := Lib.hid (ordI_m1 h1)
        obtain ⟨x, y, rfl, rfl⟩ : ∃ x y, x = s1 ∧ y = s2 := ⟨_, _, rfl, rfl⟩
        obtain ⟨p2, rfl⟩ : ∃ p2, p2 = pp := ⟨_, rfl⟩
        clear h1
        obtain ⟨b, off, rfl, hb, hcell⟩ := hr (by simp at hc; omega)
        obtain ⟨c0, c1⟩ := hcell 0 x y rfl
        simp only [Nat.zero_mul, Nat.add_zero] at c0 c1
        obtain ⟨n, rfl⟩ : ∃ n', n = n' + 1 := ⟨n - 1, by simp at hf; omega⟩
        have hEq : (o ++ (if true then [(x, y)] else [])) ++ diffF n p2 ((t1, t2) :: qq) = lessM p q := by rw [← I.eq, diffF_A hlt, List.append_assoc]; rfl
        have HE := Lib.hid hEq
        have own0 := I.own
        have I0 := I.r0
        have I1 := I.r1
        have rr0 := (I0.below hbw).more hbs
        have rr1 := (I1.below hbw).more hbs
        simp only [List.length_cons] at hc hc' hf rr0 rr1 I0 I1 ⊢
        try simp only [List.length_nil] at hc hc' hf rr0 rr1 I0 I1 ⊢
        have z1 : (1 : Int) ≤ (p2.length : Int) + 1 := by omega
        have z2 : (p2.length : Int) + 1 ≤ (c : Int) := by omega
        have z3 : (0 : Int) ≤ (p2.length : Int) + 1 := by omega
        have z4 : p2.length + 1 ≤ c := hc
        have z5 : 1 ≤ p2.length + 1 := by omega
        clear I h h' hcell hr hr' hEq hlt
        go_wp2_with fail
        refine (gives_int (show headI ((x, y) :: p2) ((t1, t2) :: qq) = -1 from hhead.out) (headOrder_any _ _ _ _ _ rr0 rr1)).mono ?_
        rintro e w1 ⟨rfl, b1⟩
        have bw1 := below_step hbw b1
        have bws1 := bw1.size
        have d0 := (bw1.cell (p := ⟨b, off, none⟩) hb).trans c0
        have d1 := (bw1.cell (p := ⟨b, off + 1, none⟩) hb).trans c1
        have ne0 := World.new_ne w1 _ d0
        have ne1 := World.new_ne w1 _ d1
        by_cases hc1 : c = 1
        · subst hc1
          have hp0 : p2 = [] := List.eq_nil_of_length_eq_zero (by omega)
          have rd : Reads w w.heap.size (.slice (some ⟨b, off, none⟩) 0 0) p2 := by rw [hp0]; exact Reads.zero _ _ _
          have HP0 := Lib.hid hp0
          clear hp0
          go_wp2_with fail
          go_region_held3 (fun w' => w'.cell? ⟨b, off, none⟩ = some (.int .i64 x) ∧ w'.cell? ⟨b, off + 1, none⟩ = some (.int .i64 y)) (go_keep) (fail)
          go_wp2_with fail
          refine (gives_is (b := true) rfl (inFirstAlone_any true false _)).mono ?_
          rintro e w4 ⟨rfl, b4⟩
          have bw4 := below_step (bw1.alloc bws1 (.cells #[.int .i64 x, .int .i64 y] 53)).drew b4
          have own4 := (((own0.below b1).below ((Below.refl _ _).alloc (Nat.le_refl _) (.cells #[.int .i64 x, .int .i64 y] 53))).below (Below.refl _ _).drew).below b4
          have e0 := (b4.cell (p := ⟨w1.heap.size, 0, none⟩) (by simp)).trans (show _ = some (Value.int .i64 x) by simp [go_sem])
          have e1 := (b4.cell (p := ⟨w1.heap.size, 1, none⟩) (by simp)).trans (show _ = some (Value.int .i64 y) by simp [go_sem])
          have own5 := own4.below ((Below.refl _ _).alloc (Nat.le_refl _) (.cells #[.int .i64 x, .int .i64 y] 53))
          have bws4 := bw4.size
          go_wp2_with (at_builtin; refine wpList_append_spots (qs := [(x, y)]) own5 (Reads.one (g := w4.heap.size) (by simp [go_sem]) (by simp [go_sem])) (by simp; omega) (by simp; omega) rfl _ _ rfl rfl rfl ?_)
          intro v5 w5 o5 g5 _
          have bw5 := own5.below_app (bw4.alloc bws4 _) (by simp; omega) g5
          go_wp2
          go_roundw
          case rel => exact ⟨p2, (t1, t2) :: qq, o ++ [(x, y)], n, rd, I1, o5, HE.out, by first | omega | (simp; omega), by simp; omega, bw5⟩
          case measure => simp [sliceLen] <;> omega
        · have rd := I0.drop (k := 1) (by simp) (some ⟨b, off + 2, none⟩) (fun _ => rfl)
          go_wp2_with fail
          go_region_held3 (fun w' => w'.cell? ⟨b, off, none⟩ = some (.int .i64 x) ∧ w'.cell? ⟨b, off + 1, none⟩ = some (.int .i64 y)) (go_keep) (fail)
          go_wp2_with fail
          refine (gives_is (b := true) rfl (inFirstAlone_any true false _)).mono ?_
          rintro e w4 ⟨rfl, b4⟩
          have bw4 := below_step (bw1.alloc bws1 (.cells #[.int .i64 x, .int .i64 y] 53)).drew b4
          have own4 := (((own0.below b1).below ((Below.refl _ _).alloc (Nat.le_refl _) (.cells #[.int .i64 x, .int .i64 y] 53))).below (Below.refl _ _).drew).below b4
          have e0 := (b4.cell (p := ⟨w1.heap.size, 0, none⟩) (by simp)).trans (show _ = some (Value.int .i64 x) by simp [go_sem])
          have e1 := (b4.cell (p := ⟨w1.heap.size, 1, none⟩) (by simp)).trans (show _ = some (Value.int .i64 y) by simp [go_sem])
          have own5 := own4.below ((Below.refl _ _).alloc (Nat.le_refl _) (.cells #[.int .i64 x, .int .i64 y] 53))
          have bws4 := bw4.size
          go_wp2_with (at_builtin; refine wpList_append_spots (qs := [(x, y)]) own5 (Reads.one (g := w4.heap.size) (by simp [go_sem]) (by simp [go_sem])) (by simp; omega) (by simp; omega) rfl _ _ rfl rfl rfl ?_)
          intro v5 w5 o5 g5 _
          have bw5 := own5.below_app (bw4.alloc bws4 _) (by simp; omega) g5
          go_wp2
          go_roundw
          case rel => exact ⟨p2, (t1, t2) :: qq, o ++ [(x, y)], n, rd, I1, o5, HE.out, by first | omega | (simp; omega), by simp; omega, bw5⟩
          case measure => simp [sliceLen] <;> omega
      · by_cases h2 : Lt (t1, t2) (s1, s2)
        · have hlt : ∀ a p2, (s1, s2) :: pp = a :: p2 → Lt (t1, t2) a := fun b q2 e => by cases e; exact h2
          have hhead := Lib.hid (ordI_p1 h2)
          obtain ⟨x, y, rfl, rfl⟩ : ∃ x y, x = t1 ∧ y = t2 := ⟨_, _, rfl, rfl⟩
          obtain ⟨p2, rfl⟩ : ∃ p2, p2 = qq := ⟨_, rfl⟩
          clear h1 h2
          obtain ⟨b, off, rfl, hb, hcell⟩ := hr' (by simp at hc'; omega)
          obtain ⟨c0, c1⟩ := hcell 0 x y rfl
          simp only [Nat.zero_mul, Nat.add_zero] at c0 c1
          obtain ⟨n, rfl⟩ : ∃ n', n = n' + 1 := ⟨n - 1, by simp at hf; omega⟩
          have hEq : (o ++ (if false then [(x, y)] else [])) ++ diffF n ((s1, s2) :: pp) p2 = lessM p q := by rw [← I.eq, diffF_B hlt]; simp
          have HE := Lib.hid hEq
          have own0 := I.own
          have I0 := I.r0
          have I1 := I.r1
          have rr0 := (I0.below hbw).more hbs
          have rr1 := (I1.below hbw).more hbs
          simp only [List.length_cons] at hc hc' hf rr0 rr1 I0 I1 ⊢
          try simp only [List.length_nil] at hc hc' hf rr0 rr1 I0 I1 ⊢
          have z1 : (1 : Int) ≤ (p2.length : Int) + 1 := by omega
          have z2 : (p2.length : Int) + 1 ≤ (c' : Int) := by omega
          have z3 : (0 : Int) ≤ (p2.length : Int) + 1 := by omega
          have z4 : p2.length + 1 ≤ c' := hc'
          have z5 : 1 ≤ p2.length + 1 := by omega
          clear I h h' hcell hr hr' hEq hlt
          go_wp2_with fail
          refine (gives_int (show headI ((s1, s2) :: pp) ((x, y) :: p2) = 1 from hhead.out) (headOrder_any _ _ _ _ _ rr0 rr1)).mono ?_
          rintro e w1 ⟨rfl, b1⟩
          have bw1 := below_step hbw b1
          have bws1 := bw1.size
          have d0 := (bw1.cell (p := ⟨b, off, none⟩) hb).trans c0
          have d1 := (bw1.cell (p := ⟨b, off + 1, none⟩) hb).trans c1
          have ne0 := World.new_ne w1 _ d0
          have ne1 := World.new_ne w1 _ d1
          by_cases hc1 : c' = 1
          · subst hc1
            have hp0 : p2 = [] := List.eq_nil_of_length_eq_zero (by omega)
            have rd : Reads w w.heap.size (.slice (some ⟨b, off, none⟩) 0 0) p2 := by rw [hp0]; exact Reads.zero _ _ _
            have HP0 := Lib.hid hp0
            clear hp0
            go_wp2_with fail
            go_region_held3 (fun w' => w'.cell? ⟨b, off, none⟩ = some (.int .i64 x) ∧ w'.cell? ⟨b, off + 1, none⟩ = some (.int .i64 y)) (go_keep) (fail)
            go_wp2_with fail
            refine (gives_is (b := false) rfl (inFirstAlone_any false true _)).mono ?_
            rintro e w4 ⟨rfl, b4⟩
            have bw4 := below_step (bw1.alloc bws1 (.cells #[.int .i64 x, .int .i64 y] 53)).drew b4
            have own4 := (((own0.below b1).below ((Below.refl _ _).alloc (Nat.le_refl _) (.cells #[.int .i64 x, .int .i64 y] 53))).below (Below.refl _ _).drew).below b4
            go_wp2
            go_roundw
            case rel => exact ⟨(s1, s2) :: pp, p2, o, n, I0, rd, own4, by simpa using HE.out, by first | omega | (simp; omega), by omega, bw4⟩
            case measure => simp [sliceLen] <;> omega
          · have rd := I1.drop (k := 1) (by simp) (some ⟨b, off + 2, none⟩) (fun _ => rfl)
            go_wp2_with fail
            go_region_held3 (fun w' => w'.cell? ⟨b, off, none⟩ = some (.int .i64 x) ∧ w'.cell? ⟨b, off + 1, none⟩ = some (.int .i64 y)) (go_keep) (fail)
            go_wp2_with fail
            refine (gives_is (b := false) rfl (inFirstAlone_any false true _)).mono ?_
            rintro e w4 ⟨rfl, b4⟩
            have bw4 := below_step (bw1.alloc bws1 (.cells #[.int .i64 x, .int .i64 y] 53)).drew b4
            have own4 := (((own0.below b1).below ((Below.refl _ _).alloc (Nat.le_refl _) (.cells #[.int .i64 x, .int .i64 y] 53))).below (Below.refl _ _).drew).below b4
            go_wp2
            go_roundw
            case rel => exact ⟨(s1, s2) :: pp, p2, o, n, I0, rd, own4, by simpa using HE.out, by first | omega | (simp; omega), by omega, bw4⟩
            case measure => simp [sliceLen] <;> omega
        · have he : (s1, s2) = (t1, t2) := by
            rcases lt_total (s1, s2) (t1, t2) with h | h | h
            · exact absurd h h1
            · exact h
            · exact absurd h h2
          obtain ⟨rfl, rfl⟩ := Prod.mk.inj he
          clear h1 h2 he
          obtain ⟨b, off, rfl, hb, hcell⟩ := hr (by simp at hc; omega)
          obtain ⟨b', off', rfl, hb', hcell'⟩ := hr' (by simp at hc'; omega)
          obtain ⟨c0, c1⟩ := hcell 0 s1 s2 rfl
          obtain ⟨c2, c3⟩ := hcell' 0 s1 s2 rfl
          simp only [Nat.zero_mul, Nat.add_zero] at c0 c1 c2 c3
          obtain ⟨n, rfl⟩ : ∃ n', n = n' + 1 := ⟨n - 1, by simp at hf; omega⟩
          have hEq : (o ++ (if false then [(s1, s2)] else [])) ++ diffF n pp qq = lessM p q := by rw [← I.eq, diffF_AB]; simp
          have HE := Lib.hid hEq
          have hhead := Lib.hid (show headI ((s1, s2) :: pp) ((s1, s2) :: qq) = 0 from ordI_zero.2 rfl)
          have own0 := I.own
          have I0 := I.r0
          have I1 := I.r1
          have rr0 := (I0.below hbw).more hbs
          have rr1 := (I1.below hbw).more hbs
          simp only [List.length_cons] at hc hc' hf rr0 rr1 I0 I1 ⊢
          have z1 : (1 : Int) ≤ (pp.length : Int) + 1 := by omega
          have z2 : (pp.length : Int) + 1 ≤ (c : Int) := by omega
          have z3 : (0 : Int) ≤ (pp.length : Int) + 1 := by omega
          have z4 : pp.length + 1 ≤ c := hc
          have z5 : 1 ≤ pp.length + 1 := by omega
          have y1 : (1 : Int) ≤ (qq.length : Int) + 1 := by omega
          have y2 : (qq.length : Int) + 1 ≤ (c' : Int) := by omega
          have y3 : (0 : Int) ≤ (qq.length : Int) + 1 := by omega
          have y4 : qq.length + 1 ≤ c' := hc'
          have y5 : 1 ≤ qq.length + 1 := by omega
          clear I h h' hcell hcell' hr hr' hEq
          go_wp2_with fail
          refine (gives_int hhead.out (headOrder_any _ _ _ _ _ rr0 rr1)).mono ?_
          rintro e w1 ⟨rfl, b1⟩
          have bw1 := below_step hbw b1
          have bws1 := bw1.size
          have d0 := (bw1.cell (p := ⟨b, off, none⟩) hb).trans c0
          have d1 := (bw1.cell (p := ⟨b, off + 1, none⟩) hb).trans c1
          have d2 := (bw1.cell (p := ⟨b', off', none⟩) hb').trans c2
          have d3 := (bw1.cell (p := ⟨b', off' + 1, none⟩) hb').trans c3
          have ne0 := World.new_ne w1 _ d0
          have ne1 := World.new_ne w1 _ d1
          have ne2 := World.new_ne w1 _ d2
          have ne3 := World.new_ne w1 _ d3
          clear c0 c1 c2 c3
          by_cases hc1 : c = 1
          · subst hc1
            have hp0 : pp = [] := List.eq_nil_of_length_eq_zero (by omega)
            have rd : Reads w w.heap.size (.slice (some ⟨b, off, none⟩) 0 0) pp := by rw [hp0]; exact Reads.zero _ _ _
            have HP0 := Lib.hid hp0
            clear hp0
            by_cases hc2 : c' = 1
            · subst hc2
              have hp1 : qq = [] := List.eq_nil_of_length_eq_zero (by omega)
              have rd' : Reads w w.heap.size (.slice (some ⟨b', off', none⟩) 0 0) qq := by rw [hp1]; exact Reads.zero _ _ _
              have HP1 := Lib.hid hp1
              clear hp1
              go_wp2_with fail
              go_region_held3 (fun w' => w'.cell? ⟨b, off, none⟩ = some (.int .i64 s1) ∧ w'.cell? ⟨b, off + 1, none⟩ = some (.int .i64 s2)) (go_keep) (fail)
              go_wp2_with fail
              go_region_held3 (fun w' => w'.cell? ⟨b', off', none⟩ = some (.int .i64 s1) ∧ w'.cell? ⟨b', off' + 1, none⟩ = some (.int .i64 s2)) (go_keep) (fail)
              go_wp2_with fail
              refine (gives_is (b := false) rfl (inFirstAlone_any true true _)).mono ?_
              rintro e w4 ⟨rfl, b4⟩
              have bw4 := below_step (bw1.alloc bws1 (.cells #[.int .i64 s1, .int .i64 s2] 53)).drew.drew b4
              have own4 := ((((own0.below b1).below ((Below.refl _ _).alloc (Nat.le_refl _) (.cells #[.int .i64 s1, .int .i64 s2] 53))).below (Below.refl _ _).drew).below (Below.refl _ _).drew).below b4
              go_wp2
              go_roundw
              case rel => exact ⟨pp, qq, o, n, rd, rd', own4, by simpa using HE.out, by first | omega | (simp; omega), by omega, bw4⟩
              case measure => simp [sliceLen] <;> omega
            · have rd' := I1.drop (k := 1) (by simp) (some ⟨b', off' + 2, none⟩) (fun _ => rfl)
              go_wp2_with fail
              go_region_held3 (fun w' => w'.cell? ⟨b, off, none⟩ = some (.int .i64 s1) ∧ w'.cell? ⟨b, off + 1, none⟩ = some (.int .i64 s2)) (go_keep) (fail)
              go_wp2_with fail
              go_region_held3 (fun w' => w'.cell? ⟨b', off', none⟩ = some (.int .i64 s1) ∧ w'.cell? ⟨b', off' + 1, none⟩ = some (.int .i64 s2)) (go_keep) (fail)
              go_wp2_with fail
              refine (gives_is (b := false) rfl (inFirstAlone_any true true _)).mono ?_
              rintro e w4 ⟨rfl, b4⟩
              have bw4 := below_step (bw1.alloc bws1 (.cells #[.int .i64 s1, .int .i64 s2] 53)).drew.drew b4
              have own4 := ((((own0.below b1).below ((Below.refl _ _).alloc (Nat.le_refl _) (.cells #[.int .i64 s1, .int .i64 s2] 53))).below (Below.refl _ _).drew).below (Below.refl _ _).drew).below b4
              go_wp2
              go_roundw
              case rel => exact ⟨pp, qq, o, n, rd, rd', own4, by simpa using HE.out, by first | omega | (simp; omega), by omega, bw4⟩
              case measure => simp [sliceLen] <;> omega
          · have rd := I0.drop (k := 1) (by simp) (some ⟨b, off + 2, none⟩) (fun _ => rfl)
            by_cases hc2 : c' = 1
            · subst hc2
              have hp1 : qq = [] := List.eq_nil_of_length_eq_zero (by omega)
              have rd' : Reads w w.heap.size (.slice (some ⟨b', off', none⟩) 0 0) qq := by rw [hp1]; exact Reads.zero _ _ _
              have HP1 := Lib.hid hp1
              clear hp1
              go_wp2_with fail
              go_region_held3 (fun w' => w'.cell? ⟨b, off, none⟩ = some (.int .i64 s1) ∧ w'.cell? ⟨b, off + 1, none⟩ = some (.int .i64 s2)) (go_keep) (fail)
              go_wp2_with fail
              go_region_held3 (fun w' => w'.cell? ⟨b', off', none⟩ = some (.int .i64 s1) ∧ w'.cell? ⟨b', off' + 1, none⟩ = some (.int .i64 s2)) (go_keep) (fail)
              go_wp2_with fail
              refine (gives_is (b := false) rfl (inFirstAlone_any true true _)).mono ?_
              rintro e w4 ⟨rfl, b4⟩
              have bw4 := below_step (bw1.alloc bws1 (.cells #[.int .i64 s1, .int .i64 s2] 53)).drew.drew b4
              have own4 := ((((own0.below b1).below ((Below.refl _ _).alloc (Nat.le_refl _) (.cells #[.int .i64 s1, .int .i64 s2] 53))).below (Below.refl _ _).drew).below (Below.refl _ _).drew).below b4
              go_wp2
              go_roundw
              case rel => exact ⟨pp, qq, o, n, rd, rd', own4, by simpa using HE.out, by first | omega | (simp; omega), by omega, bw4⟩
              case measure => simp [sliceLen] <;> omega
            · have rd' := I1.drop (k := 1) (by simp) (some ⟨b', off' + 2, none⟩) (fun _ => rfl)
              go_wp2_with fail
              go_region_held3 (fun w' => w'.cell? ⟨b, off, none⟩ = some (.int .i64 s1) ∧ w'.cell? ⟨b, off + 1, none⟩ = some (.int .i64 s2)) (go_keep) (fail)
              go_wp2_with fail
              go_region_held3 (fun w' => w'.cell? ⟨b', off', none⟩ = some (.int .i64 s1) ∧ w'.cell? ⟨b', off' + 1, none⟩ = some (.int .i64 s2)) (go_keep) (fail)
              go_wp2_with fail
              refine (gives_is (b := false) rfl (inFirstAlone_any true true _)).mono ?_
              rintro e w4 ⟨rfl, b4⟩
              have bw4 := below_step (bw1.alloc bws1 (.cells #[.int .i64 s1, .int .i64 s2] 53)).drew.drew b4
              have own4 := ((((own0.below b1).below ((Below.refl _ _).alloc (Nat.le_refl _) (.cells #[.int .i64 s1, .int .i64 s2] 53))).below (Below.refl _ _).drew).below (Below.refl _ _).drew).below b4
              go_wp2
              go_roundw
              case rel => exact ⟨pp, qq, o, n, rd, rd', own4, by simpa using HE.out, by first | omega | (simp; omega), by omega, bw4⟩
              case measure => simp [sliceLen] <;> omega
theorem lessAll_any (p q : List Sp) (v v' : Value) (w : World) (h : Reads w w.heap.size v p) (h' : Reads w w.heap.size v' q) (hp : Sorted p) (hq : Sorted q) (hl : p.length + q.length ≤ 1000000) :
    Calls Tryz.prog 61 #[v, v'] w fun e w' => ∃ v', e = .returned v' ∧ Owns w' w.heap.size v' (lessL p q) ∧ Below w.heap.size w w' := by
  have hcl := mergedAlone_any p q v v' w h h' hl
  rw [lessM_is hp hq] at hcl
  obtain ⟨A, c, rfl, _, _⟩ := h.slice
  obtain ⟨A', c', rfl, _, _⟩ := h'.slice
  go_enter Tryz.func61, Tryz.ntmps61
  go_wp2_with fail
  refine hcl.mono ?_
  rintro e w1 ⟨v1, rfl, o1, b1⟩
  go_wp2
  go_ret
  exact ⟨_, rfl, o1, b1⟩
end Go.Proofs.YtkiidmdgdjphjaaGreat
