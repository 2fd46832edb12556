/- The laws' own helpers on lists of texts: equal, marked, held. No conditions but those typed. -/
import Derived.Test.YtjncnjcpcmpmcaaEq
import Derived.Test.YtjncnjcpcmpmcaaMark
import Derived.Test.YtjncnjcpcmpmcaaTextO
namespace Go.Proofs.Ytjncnjcpcmpmcaa
open Go.RowKit Go.Sort

theorem strZ_at2 {r : List Bs} {k : Nat} {l : Bs} (h : r[k]? = some l) : (strZ r)[k]? = some (strV l) := by unfold strZ; rw [List.getElem?_map, h]; rfl
set_option maxRecDepth 100000 in
set_option maxHeartbeats 400000 in
theorem eqStrs_any (l : List Bs) (v v' : Value) (b b' : Nat) (w : World) (h : VOwns 9 w b v (strZ l)) (h' : VOwns 9 w b' v' (strZ l)) (hl : l.length ≤ 1000000) : Calls Try.prog 13 #[v, v'] w (Gives (.bool true) w) := by
  obtain ⟨A, c, rfl, hc, hm, hr⟩ := h.shape
  obtain ⟨A', c', rfl, hc', hm', hr'⟩ := h'.shape
  rw [strZ_len] at hc hr hc' hr' h h' ⊢
  unfold maxLen at hm hm'
  by_cases h0 : l.length = 0
  · rw [h0]
    clear h0 hc hr hc' hr' h h'
    go_enter Try.func13, Try.ntmps13
    go_wp2
    go_rounds 2
    go_ret
    exact ⟨rfl, Below.refl _ _⟩
  · obtain ⟨g, rfl, hg1, hg2⟩ := hr (by omega)
    obtain ⟨g', rfl, hg1', hg2'⟩ := hr' (by omega)
    clear h0
    have HC := Lib.hid (fun k (hk : k < l.length) => (h.cell (k := k) (by rw [strZ_len]; exact hk)))
    have HC' := Lib.hid (fun k (hk : k < l.length) => (h'.cell (k := k) (by rw [strZ_len]; exact hk)))
    go_enter Try.func13, Try.ntmps13
    go_wp2
    go_loopw [5] (fun i wr => ∃ k : Nat, k ≤ l.length ∧ i = .int .i64 k ∧ Below w.heap.size w wr) (fun i _ => l.length - (intOf i).toNat)
    case atStart => exact ⟨0, Nat.zero_le _, rfl, Below.refl _ _⟩
    case round =>
      obtain ⟨k, hk, rfl, hbw⟩ := hrel
      have hbs : w.heap.size ≤ wr.heap.size := hbw.size
      by_cases hlt : k < l.length
      · have hxy : (strZ l)[k]? = some (strV l[k]) := strZ_at2 (List.getElem?_eq_getElem hlt)
        obtain ⟨x, hx⟩ : ∃ x, bs l[k] = x := ⟨_, rfl⟩
        rw [show strV l[k] = .string (bs l[k]) from rfl, hx] at hxy
        have d0 := cell_regrown ((hbw.cell (p := ⟨g, k, none⟩) hg2).trans ((HC.out k hlt).trans hxy))
        have d1 := cell_regrown ((hbw.cell (p := ⟨g', k, none⟩) hg2').trans ((HC'.out k hlt).trans hxy))
        clear hxy hx
        go_wp2
        refine wp_region_quiet_below (by kernel_rfl) (by kernel_rfl) ?_
        repeat (go_big_quiet_step (first | fail))
        refine wpQuiet_nil ?_
        intro _ hw'
        obtain ⟨⟨dq, osq⟩, hw''⟩ := hw'
        subst hw''
        go_wp2
        go_roundw
        case rel => exact ⟨k + 1, by omega, by go_num, hbw.trans ((below_regrown _ _ _).mono hbs)⟩
        case measure => simp [intOf]; omega
      · go_wp2
        go_ret
        exact ⟨rfl, hbw⟩
set_option maxRecDepth 100000 in
set_option maxHeartbeats 400000 in
theorem sameTexts_any (l : List Bs) (v v' : Value) (b b' : Nat) (w : World) (h : VOwns 9 w b v (strZ l)) (h' : VOwns 9 w b' v' (strZ l)) (hl : l.length ≤ 1000000) : Calls Try.prog 7 #[v, v'] w (Gives (.bool true) w) := by
  obtain ⟨A, c, rfl, hc, hm, hr⟩ := h.shape
  obtain ⟨A', c', rfl, hc', hm', hr'⟩ := h'.shape
  rw [strZ_len] at hc hr hc' hr' h h' ⊢
  unfold maxLen at hm hm'
  by_cases h0 : l.length = 0
  · rw [h0]
    clear h0 hc hr hc' hr' h h'
    go_enter Try.func7, Try.ntmps7
    go_wp2
    go_rounds 2
    go_ret
    exact ⟨rfl, Below.refl _ _⟩
  · obtain ⟨g, rfl, hg1, hg2⟩ := hr (by omega)
    obtain ⟨g', rfl, hg1', hg2'⟩ := hr' (by omega)
    clear h0
    have HC := Lib.hid (fun k (hk : k < l.length) => (h.cell (k := k) (by rw [strZ_len]; exact hk)))
    have HC' := Lib.hid (fun k (hk : k < l.length) => (h'.cell (k := k) (by rw [strZ_len]; exact hk)))
    go_enter Try.func7, Try.ntmps7
    go_wp2
    go_loopw [5] (fun i wr => ∃ k : Nat, k ≤ l.length ∧ i = .int .i64 k ∧ Below w.heap.size w wr) (fun i _ => l.length - (intOf i).toNat)
    case atStart => exact ⟨0, Nat.zero_le _, rfl, Below.refl _ _⟩
    case round =>
      obtain ⟨k, hk, rfl, hbw⟩ := hrel
      have hbs : w.heap.size ≤ wr.heap.size := hbw.size
      by_cases hlt : k < l.length
      · have hxy : (strZ l)[k]? = some (strV l[k]) := strZ_at2 (List.getElem?_eq_getElem hlt)
        obtain ⟨x, hx⟩ : ∃ x, bs l[k] = x := ⟨_, rfl⟩
        rw [show strV l[k] = .string (bs l[k]) from rfl, hx] at hxy
        have d0 := cell_regrown ((hbw.cell (p := ⟨g, k, none⟩) hg2).trans ((HC.out k hlt).trans hxy))
        have d1 := cell_regrown ((hbw.cell (p := ⟨g', k, none⟩) hg2').trans ((HC'.out k hlt).trans hxy))
        clear hxy hx
        go_wp2
        refine wp_region_quiet_below (by kernel_rfl) (by kernel_rfl) ?_
        repeat (go_big_quiet_step (first | fail))
        refine wpQuiet_nil ?_
        intro _ hw'
        obtain ⟨⟨dq, osq⟩, hw''⟩ := hw'
        subst hw''
        go_wp2
        go_roundw
        case rel => exact ⟨k + 1, by omega, by go_num, hbw.trans ((below_regrown _ _ _).mono hbs)⟩
        case measure => simp [intOf]; omega
      · go_wp2
        go_ret
        exact ⟨rfl, hbw⟩

/-! ### marks that are texts -/
def mtB (k : Nat) : Bs := 109 :: natB k
set_option maxRecDepth 100000 in
set_option maxHeartbeats 800000 in
theorem markText_any (k : Nat) (h0 : 0 < k) (hk : k < 1000000000) (w : World) : Calls Try.prog 26 #[.int .i64 (k : Int)] w (Gives (.string (bs (mtB k))) w) := by
  have hd : decide ((k : Int) ≤ 0) = false := decide_eq_false (by omega)
  have hk1 : (0 : Int) < (k : Int) := by omega
  go_enter Try.func26, Try.ntmps26
  go_wp2
  go_loopw [0, 3] (fun n s wr => ∃ (m : Nat) (o : Bs), m < 1000000000 ∧ n = .int .i64 (m : Int) ∧ s = .string (bs o) ∧ (0 < m → natB m ++ o = natB k) ∧ (m = 0 → o = natB k) ∧ Below w.heap.size w wr) (fun n _ _ => (intOf n).toNat)
  case atStart => exact ⟨k, [], hk, rfl, rfl, fun _ => List.append_nil _, fun e => by omega, Below.refl _ _⟩
  case round =>
    obtain ⟨m, o, hm, rfl, rfl, h1, h2, hb⟩ := hrel
    by_cases hm0 : 0 < m
    · have g0 : decide ((0 : Int) < (m : Int)) = true := decide_eq_true (by omega)
      have g1 : (0 : Int) < (m : Int) := by omega
      have g2 : (m : Int) < 1000000000 := by omega
      have H1 := Lib.hid (h1 hm0)
      have lo : o.length ≤ 9 := by
        have h3 := congrArg List.length (h1 hm0)
        rw [List.length_append] at h3
        have := natB_length 8 k hk
        omega
      have hconv := byte_str (d := m % 10) (Nat.mod_lt _ (by omega)) (wr.alloc (.cells #[.int .u8 (48 + (m : Int) % 10)] 5)) wr.heap.size (by
        rw [show 48 + ((m % 10 : Nat) : Int) = 48 + (m : Int) % 10 by omega]
        exact one_new _ _ _)
      have ha := add_two (P := Try.prog) [digB (m % 10)] o (by simp) (by omega)
      have bb := hb.alloc hb.size (.cells #[.int .u8 (48 + (m : Int) % 10)] 5)
      clear h1 h2
      go_wp2
      go_roundw
      case rel =>
        refine ⟨m / 10, digB (m % 10) :: o, by omega, int_is (by omega), rfl, fun h => ?_, fun h => ?_, bb⟩
        · have := H1.out
          rw [natB_big (by omega), List.append_assoc] at this
          exact this
        · have := H1.out
          have hm10 : m < 10 := by omega
          rw [natB_small hm10] at this
          rw [Nat.mod_eq_of_lt hm10]
          exact this
      case measure => simp [intOf]; omega
    · have g0 : decide ((0 : Int) < (m : Int)) = false := decide_eq_false (by omega)
      obtain rfl : m = 0 := by omega
      have hN := natB_length 8 k hk
      have H2 := Lib.hid (h2 rfl)
      have ha : ∀ W, (Op.stringOp .add { data := #[109] } (bs o)).run Try.prog W = .ok (.string (bs (109 :: o))) W := fun W => str_add [109] o W (by rw [H2.out]; simp; omega)
      clear h1 h2
      go_wp2
      go_ret
      exact ⟨by unfold mtB; rw [← H2.out]; rfl, hb⟩
def marksT (n k : Nat) : List Bs := (List.range n).map fun j : Nat => mtB (k + j)
theorem marksT_length (n k : Nat) : (marksT n k).length = n := by unfold marksT; rw [List.length_map, List.length_range]
theorem marksT_at {n j : Nat} (k : Nat) (h : j < n) : (marksT n k)[j]? = some (mtB (k + j)) := by
  unfold marksT
  rw [List.getElem?_map, List.getElem?_range h]; rfl
def AgreeT (p q : List Bs) (k : Nat) : Prop := ∀ j, j < k → p[j]? = q[j]?
theorem agreeT_all {p q : List Bs} (hl : p.length = q.length) (h : AgreeT p q p.length) : p = q := by
  apply List.ext_getElem?
  intro j
  by_cases hj : j < p.length
  · exact h j hj
  · rw [List.getElem?_eq_none (by omega), List.getElem?_eq_none (by omega)]
theorem agreeT_set {p q : List Bs} {k : Nat} {a : Bs} (h : AgreeT p q k) (hk : k < p.length) (hq : q[k]? = some a) : AgreeT (p.set k a) q (k + 1) := fun j hj => by
  by_cases e : j = k
  · subst e; rw [hq, List.getElem?_set]; simp [hk]
  · rw [List.getElem?_set]; simp [show ¬ k = j by omega]; exact h j (by omega)
theorem markT_lit {n : Int} {k : Nat} (h : n = (k : Int)) (h0 : 0 < k) (hk : k < 1000000000) (w : World) : Calls Try.prog 26 #[.int .i64 n] w (Gives (.string (bs (mtB k))) w) := by
  subst h; exact markText_any k h0 hk w
theorem gBelowT {w w1 w2 : World} {g : Nat} (h : w.grownBy w1 (some g)) (hb : Below w1.heap.size w1 w2) : w.grownBy w2 (some g) :=
  ⟨hb.os.trans h.os, hb.tape.trans h.tape, hb.output.trans h.output, Nat.le_trans h.size hb.size, fun k hk hne => (hb.block k (Nat.lt_of_lt_of_le hk h.size)).trans (h.block k hk hne)⟩
theorem gTransT {w w1 w2 : World} {g : Nat} (h : w.grownBy w1 (some g)) (k : w1.grownBy w2 (some g)) : w.grownBy w2 (some g) :=
  ⟨k.os.trans h.os, k.tape.trans h.tape, k.output.trans h.output, Nat.le_trans h.size k.size, fun i hi hne => (k.block i (Nat.lt_of_lt_of_le hi h.size) hne).trans (h.block i hi hne)⟩
theorem setGrownT (w : World) (g j : Nat) (u : Value) : w.grownBy (w.setCell ⟨g, j, none⟩ u) (some g) := setGrown w g j u
set_option maxRecDepth 100000 in
set_option maxHeartbeats 800000 in
theorem markStr_any (l : List Bs) (v : Value) (base : Nat) (w : World) (h : VOwns 9 w base v (strZ l)) (hl : l.length ≤ 1000000) :
    Calls Try.prog 16 #[v, .int .i64 1] w fun e w' => e = .returned (.int .i64 (1 + (l.length : Int))) ∧ VOwns 9 w' base v (strZ (marksT l.length 1)) ∧ w.grownBy w' v.ownBlock := by
  have hpr := h
  obtain ⟨A, c, rfl, hc, hm, hr⟩ := h.shape
  rw [strZ_len] at hc hr hpr ⊢
  unfold maxLen at hm
  by_cases hz : l.length = 0
  · have e : l = [] := List.eq_nil_of_length_eq_zero hz
    subst e
    clear hr hz
    go_enter Try.func16, Try.ntmps16
    go_wp2
    go_rounds 2
    go_ret
    exact ⟨by simp, hpr, World.grownBy.refl _ _⟩
  · obtain ⟨g, rfl, hg1, hg2⟩ := hr (by omega)
    clear hz
    go_enter Try.func16, Try.ntmps16
    go_wp2
    go_loopw [1, 5] (fun kk i wr => ∃ (j : Nat) (cur : List Bs), j ≤ l.length ∧ i = .int .i64 j ∧ kk = .int .i64 (1 + (j : Int)) ∧ cur.length = l.length ∧ AgreeT cur (marksT l.length 1) j ∧ VOwns 9 wr base (.slice (some ⟨g, 0, none⟩) l.length c) (strZ cur) ∧ w.grownBy wr (some g)) (fun _ i _ => l.length - (intOf i).toNat)
    case atStart => exact ⟨0, l, Nat.zero_le _, rfl, by simp, rfl, fun j hj => by omega, hpr, World.grownBy.refl _ _⟩
    case round =>
      obtain ⟨j, cur, hj, rfl, rfl, hcl, hag, hown, hgr⟩ := hrel
      have hCL := Lib.hid hcl
      by_cases hlt : j < l.length
      · have hd : decide ((j : Int) < (l.length : Int)) = true := decide_eq_true (by omega)
        have i0 : (0 : Int) ≤ (j : Int) := Int.natCast_nonneg _
        have i1 : (j : Int) < (l.length : Int) := by omega
        have hcj : j < cur.length := by omega
        have hM := Lib.hid (marksT_at 1 hlt)
        have cc := Lib.hid (fun W => markT_lit (n := 1 + (j : Int)) (k := 1 + j) (by omega) (by omega) (by omega) W)
        clear hcl
        go_wp2_with fail
        refine (cc.out _).mono ?_
        rintro e w2 ⟨rfl, b2⟩
        have hown := hown.below b2
        have hgr := gBelowT hgr b2
        have fz := hown.free j
        have q0 := (hown.cell (k := j) (by rw [strZ_len]; omega)).trans (strZ_at2 (List.getElem?_eq_getElem (l := cur) (i := j) hcj))
        obtain ⟨x, hx⟩ : ∃ x, strV cur[j] = x := ⟨_, rfl⟩
        rw [hx] at q0
        clear hx b2
        obtain ⟨X, hX⟩ : ∃ X, mtB (1 + j) = X := ⟨_, rfl⟩
        rw [hX] at hM ⊢
        clear hX
        go_wp2
        go_roundw
        case rel =>
          refine ⟨j + 1, cur.set j X, by omega, by go_num, int_is (by push_cast; omega), by rw [List.length_set]; exact hCL.out, agreeT_set hag (by have := hCL.out; omega) hM.out, ?_, gTransT hgr (setGrownT _ _ _ _)⟩
          have := hown.set j (strV X)
          rw [show (strZ cur).set j (strV X) = strZ (cur.set j X) by unfold strZ; rw [List.map_set]] at this
          exact this
        case measure => simp [intOf]; omega
      · have hd : decide ((j : Int) < (l.length : Int)) = false := decide_eq_false (by omega)
        have hE := Lib.hid (agreeT_all (hCL.out.trans (marksT_length _ _).symm) (fun i hi => hag i (by omega)))
        have hjn : j = l.length := by omega
        have hJ := Lib.hid hjn
        clear hjn hcl
        go_wp2
        go_ret
        exact ⟨by have := hJ.out; rw [this]; rfl, by have e := hE.out; rw [e] at hown; exact hown, hgr⟩
set_option maxRecDepth 100000 in
set_option maxHeartbeats 800000 in
theorem heldStr_any (n : Nat) (v : Value) (base : Nat) (w : World) (h : VOwns 9 w base v (strZ (marksT n 1))) (hl : n ≤ 1000000) :
    Calls Try.prog 17 #[v, .int .i64 1] w (Gives (.int .i64 (1 + (n : Int))) w) := by
  obtain ⟨A, c, rfl, hc, hm, hr⟩ := h.shape
  rw [strZ_len, marksT_length] at hc hr h ⊢
  unfold maxLen at hm
  by_cases hz : n = 0
  · subst hz
    clear hr
    go_enter Try.func17, Try.ntmps17
    go_wp2
    go_rounds 2
    go_ret
    exact ⟨by simp, Below.refl _ _⟩
  · obtain ⟨g, rfl, hg1, hg2⟩ := hr (by omega)
    clear hz
    have HC := Lib.hid (fun j (hk : j < n) => (h.cell (k := j) (by rw [strZ_len, marksT_length]; exact hk)).trans (strZ_at2 (marksT_at 1 hk)))
    go_enter Try.func17, Try.ntmps17
    go_wp2
    go_loopw [1, 5] (fun kk i wr => ∃ (j : Nat), j ≤ n ∧ i = .int .i64 j ∧ kk = .int .i64 (1 + (j : Int)) ∧ Below w.heap.size w wr) (fun _ i _ => n - (intOf i).toNat)
    case atStart => exact ⟨0, Nat.zero_le _, rfl, by simp, Below.refl _ _⟩
    case round =>
      obtain ⟨j, hj, rfl, rfl, hbw⟩ := hrel
      by_cases hlt : j < n
      · have d0 := cell_regrown ((hbw.cell (p := ⟨g, j, none⟩) hg2).trans (HC.out j hlt))
        have hd : decide ((j : Int) < (n : Int)) = true := decide_eq_true (by omega)
        have i0 : (0 : Int) ≤ (j : Int) := Int.natCast_nonneg _
        have i1 : (j : Int) < (n : Int) := by omega
        have cc := Lib.hid (fun W => markT_lit (n := 1 + (j : Int)) (k := 1 + j) (by omega) (by omega) (by omega) W)
        obtain ⟨X, hX⟩ : ∃ X, bs (mtB (1 + j)) = X := ⟨_, rfl⟩
        rw [show strV (mtB (1 + j)) = .string (bs (mtB (1 + j))) from rfl, hX] at d0
        rw [hX] at cc
        clear hX
        go_wp2
        refine wp_region_quiet_below (by kernel_rfl) (by kernel_rfl) ?_
        repeat (go_big_quiet_step (first | (go_at_call 26; with_reducible exact gives_regrown (fun w1 _ => cc.out w1) _ _)))
        refine wpQuiet_nil ?_
        intro w3 hw'
        obtain ⟨⟨dq, osq⟩, hw''⟩ := hw'
        have hq : Below wr.heap.size wr w3 := by rw [hw'']; exact below_regrown _ _ _
        clear hw'' dq osq
        have hbw := below_step hbw hq
        go_wp2
        go_roundw
        case rel => exact ⟨j + 1, by omega, by go_num, int_is (by push_cast; omega), hbw⟩
        case measure => simp [intOf]; omega
      · have hd : decide ((j : Int) < (n : Int)) = false := decide_eq_false (by omega)
        have hjn : j = n := by omega
        have hJ := Lib.hid hjn
        clear hjn
        go_wp2
        go_ret
        exact ⟨by have := hJ.out; rw [this]; rfl, hbw⟩
end Go.Proofs.Ytjncnjcpcmpmcaa
