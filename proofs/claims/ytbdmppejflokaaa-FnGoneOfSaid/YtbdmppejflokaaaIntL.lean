/- The laws' own helpers on lists of whole numbers: equal, marked, held. No conditions but those typed. -/
import Derived.Test.YtbdmppejflokaaaEq
import Derived.Test.YtbdmppejflokaaaMark
import Derived.Test.YtbdmppejflokaaaSizeS
namespace Go.Proofs.Ytbdmppejflokaaa
open Go.RowKit Go.Sort

theorem VOwns.neS {T : TypeId} {w1 w2 : World} {b1 b2 : Nat} {v1 v2 : Value} {l : List Value} {p : List Sp} (h1 : VOwns T w1 b1 v1 l) (h2 : Owns w2 b2 v2 p) (hb : w1.heap.size ≤ b2) : v1.ownBlock = none ∨ v1.ownBlock ≠ v2.ownBlock := by
  cases e1 : v1.ownBlock with
  | none => exact .inl rfl
  | some k1 =>
    refine .inr fun e => ?_
    have l1 := h1.lt k1 e1
    have l2 := h2.lt k1 e.symm
    omega
theorem VOwns.neS' {T : TypeId} {w1 w2 : World} {b1 b2 : Nat} {v1 v2 : Value} {l : List Value} {p : List Sp} (h1 : VOwns T w1 b1 v1 l) (h2 : Owns w2 b2 v2 p) (hb : w2.heap.size ≤ b1) : v1.ownBlock = none ∨ v1.ownBlock ≠ v2.ownBlock := by
  cases e1 : v1.ownBlock with
  | none => exact .inl rfl
  | some k1 =>
    refine .inr fun e => ?_
    have l1 := h1.lt k1 e1
    have l2 := h2.lt k1 e.symm
    omega
theorem VOwns.neV {T : TypeId} {w1 w2 : World} {b1 b2 : Nat} {v1 v2 : Value} {l m : List Value} (h1 : VOwns T w1 b1 v1 l) (h2 : VOwns T w2 b2 v2 m) (hb : w1.heap.size ≤ b2) : v1.ownBlock = none ∨ v1.ownBlock ≠ v2.ownBlock := by
  cases e1 : v1.ownBlock with
  | none => exact .inl rfl
  | some k1 =>
    refine .inr fun e => ?_
    have l1 := h1.lt k1 e1
    have l2 := h2.lt k1 e.symm
    omega

set_option maxRecDepth 100000 in
set_option maxHeartbeats 400000 in
theorem eqInts_any (l : List Int) (v v' : Value) (b b' : Nat) (w : World) (h : VOwns 3 w b v (intsZ l)) (h' : VOwns 3 w b' v' (intsZ l)) (hl : l.length ≤ 1000) : Calls Try.prog 39 #[v, v'] w (Gives (.bool true) w) := by
  obtain ⟨A, c, rfl, hc, hm, hr⟩ := h.shape
  obtain ⟨A', c', rfl, hc', hm', hr'⟩ := h'.shape
  rw [intsZ_length] at hc hr hc' hr' h h' ⊢
  unfold maxLen at hm hm'
  by_cases h0 : l.length = 0
  · rw [h0]
    clear h0 hc hr hc' hr' h h'
    go_enter Try.func39, Try.ntmps39
    go_wp2
    go_rounds 2
    go_ret
    exact ⟨rfl, Below.refl _ _⟩
  · obtain ⟨g, rfl, hg1, hg2⟩ := hr (by omega)
    obtain ⟨g', rfl, hg1', hg2'⟩ := hr' (by omega)
    clear h0
    have HC := Lib.hid (fun k (hk : k < l.length) => (h.cell (k := k) (by rw [intsZ_length]; exact hk)))
    have HC' := Lib.hid (fun k (hk : k < l.length) => (h'.cell (k := k) (by rw [intsZ_length]; exact hk)))
    go_enter Try.func39, Try.ntmps39
    go_wp2
    go_loopw [5] (fun i wr => ∃ k : Nat, k ≤ l.length ∧ i = .int .i64 k ∧ Below w.heap.size w wr) (fun i _ => l.length - (intOf i).toNat)
    case atStart => exact ⟨0, Nat.zero_le _, rfl, Below.refl _ _⟩
    case round =>
      obtain ⟨k, hk, rfl, hbw⟩ := hrel
      have hbs : w.heap.size ≤ wr.heap.size := hbw.size
      by_cases hlt : k < l.length
      · have hxy : (intsZ l)[k]? = some (.int .i64 l[k]) := intsZ_at' (List.getElem?_eq_getElem hlt)
        obtain ⟨x, hx⟩ : ∃ x, l[k] = x := ⟨_, rfl⟩
        rw [hx] at hxy
        have d0 := cell_regrown ((hbw.cell (p := ⟨g, k, none⟩) hg2).trans ((HC.out k hlt).trans hxy))
        have d1 := cell_regrown ((hbw.cell (p := ⟨g', k, none⟩) hg2').trans ((HC'.out k hlt).trans hxy))
        clear hxy hx
        go_wp2
        refine wp_region_quiet_below (by kernel_rfl) (by kernel_rfl) ?_
        repeat (go_big_quiet_step (first | fail))
        refine wpQuiet_nil ?_
        intro _ hw'
        obtain ⟨⟨dq, osq⟩, hw''⟩ := hw'
        subst hw''
        go_wp2
        go_roundw
        case rel => exact ⟨k + 1, by omega, by go_num, hbw.trans ((below_regrown _ _ _).mono hbs)⟩
        case measure => simp [intOf]; omega
      · go_wp2
        go_ret
        exact ⟨rfl, hbw⟩
set_option maxRecDepth 100000 in
set_option maxHeartbeats 400000 in
theorem sameInts_any (l : List Int) (v v' : Value) (b b' : Nat) (w : World) (h : VOwns 3 w b v (intsZ l)) (h' : VOwns 3 w b' v' (intsZ l)) (hl : l.length ≤ 1000) : Calls Try.prog 25 #[v, v'] w (Gives (.bool true) w) := by
  obtain ⟨A, c, rfl, hc, hm, hr⟩ := h.shape
  obtain ⟨A', c', rfl, hc', hm', hr'⟩ := h'.shape
  rw [intsZ_length] at hc hr hc' hr' h h' ⊢
  unfold maxLen at hm hm'
  by_cases h0 : l.length = 0
  · rw [h0]
    clear h0 hc hr hc' hr' h h'
    go_enter Try.func25, Try.ntmps25
    go_wp2
    go_rounds 2
    go_ret
    exact ⟨rfl, Below.refl _ _⟩
  · obtain ⟨g, rfl, hg1, hg2⟩ := hr (by omega)
    obtain ⟨g', rfl, hg1', hg2'⟩ := hr' (by omega)
    clear h0
    have HC := Lib.hid (fun k (hk : k < l.length) => (h.cell (k := k) (by rw [intsZ_length]; exact hk)))
    have HC' := Lib.hid (fun k (hk : k < l.length) => (h'.cell (k := k) (by rw [intsZ_length]; exact hk)))
    go_enter Try.func25, Try.ntmps25
    go_wp2
    go_loopw [5] (fun i wr => ∃ k : Nat, k ≤ l.length ∧ i = .int .i64 k ∧ Below w.heap.size w wr) (fun i _ => l.length - (intOf i).toNat)
    case atStart => exact ⟨0, Nat.zero_le _, rfl, Below.refl _ _⟩
    case round =>
      obtain ⟨k, hk, rfl, hbw⟩ := hrel
      have hbs : w.heap.size ≤ wr.heap.size := hbw.size
      by_cases hlt : k < l.length
      · have hxy : (intsZ l)[k]? = some (.int .i64 l[k]) := intsZ_at' (List.getElem?_eq_getElem hlt)
        obtain ⟨x, hx⟩ : ∃ x, l[k] = x := ⟨_, rfl⟩
        rw [hx] at hxy
        have d0 := cell_regrown ((hbw.cell (p := ⟨g, k, none⟩) hg2).trans ((HC.out k hlt).trans hxy))
        have d1 := cell_regrown ((hbw.cell (p := ⟨g', k, none⟩) hg2').trans ((HC'.out k hlt).trans hxy))
        clear hxy hx
        go_wp2
        refine wp_region_quiet_below (by kernel_rfl) (by kernel_rfl) ?_
        repeat (go_big_quiet_step (first | fail))
        refine wpQuiet_nil ?_
        intro _ hw'
        obtain ⟨⟨dq, osq⟩, hw''⟩ := hw'
        subst hw''
        go_wp2
        go_roundw
        case rel => exact ⟨k + 1, by omega, by go_num, hbw.trans ((below_regrown _ _ _).mono hbs)⟩
        case measure => simp [intOf]; omega
      · go_wp2
        go_ret
        exact ⟨rfl, hbw⟩

def marksI (n : Nat) (k : Int) : List Int := (List.range n).map fun j : Nat => k + (j : Int)
theorem marksI_length (n : Nat) (k : Int) : (marksI n k).length = n := by unfold marksI; rw [List.length_map, List.length_range]
theorem marksI_at {n j : Nat} (k : Int) (h : j < n) : (marksI n k)[j]? = some (k + (j : Int)) := by
  unfold marksI
  rw [List.getElem?_map, List.getElem?_range h]; rfl
def AgreeI (p q : List Int) (k : Nat) : Prop := ∀ j, j < k → p[j]? = q[j]?
theorem agreeI_all {p q : List Int} (hl : p.length = q.length) (h : AgreeI p q p.length) : p = q := by
  apply List.ext_getElem?
  intro j
  by_cases hj : j < p.length
  · exact h j hj
  · rw [List.getElem?_eq_none (by omega), List.getElem?_eq_none (by omega)]
theorem agreeI_set {p q : List Int} {k : Nat} {a : Int} (h : AgreeI p q k) (hk : k < p.length) (hq : q[k]? = some a) : AgreeI (p.set k a) q (k + 1) := fun j hj => by
  by_cases e : j = k
  · subst e; rw [hq, List.getElem?_set]; simp [hk]
  · rw [List.getElem?_set]; simp [show ¬ k = j by omega]; exact h j (by omega)

set_option maxRecDepth 100000 in
set_option maxHeartbeats 400000 in
theorem markI_any (l : List Int) (v : Value) (base : Nat) (k : Int) (w : World) (h : VOwns 3 w base v (intsZ l)) (hl : l.length ≤ 1000) (h0 : 0 ≤ k) (h1 : k ≤ 10000000) :
    Calls Try.prog 40 #[v, .int .i64 k] w fun e w' => e = .returned (.int .i64 (k + (l.length : Int))) ∧ VOwns 3 w' base v (intsZ (marksI l.length k)) ∧ w.grownBy w' v.ownBlock := by
  have hpr := h
  obtain ⟨A, c, rfl, hc, hm, hr⟩ := h.shape
  rw [intsZ_length] at hc hr hpr ⊢
  unfold maxLen at hm
  by_cases hz : l.length = 0
  · have e : l = [] := List.eq_nil_of_length_eq_zero hz
    subst e
    clear hr hz
    go_enter Try.func40, Try.ntmps40
    go_wp2
    go_rounds 2
    go_ret
    exact ⟨by simp, hpr, World.grownBy.refl _ _⟩
  · obtain ⟨g, rfl, hg1, hg2⟩ := hr (by omega)
    clear hz
    go_enter Try.func40, Try.ntmps40
    go_wp2
    go_loopw [1, 5] (fun kk i wr => ∃ (j : Nat) (cur : List Int), j ≤ l.length ∧ i = .int .i64 j ∧ kk = .int .i64 (k + (j : Int)) ∧ cur.length = l.length ∧ AgreeI cur (marksI l.length k) j ∧ VOwns 3 wr base (.slice (some ⟨g, 0, none⟩) l.length c) (intsZ cur) ∧ w.grownBy wr (some g)) (fun _ i _ => l.length - (intOf i).toNat)
    case atStart => exact ⟨0, l, Nat.zero_le _, rfl, by simp, rfl, fun j hj => by omega, hpr, World.grownBy.refl _ _⟩
    case round =>
      obtain ⟨j, cur, hj, rfl, rfl, hcl, hag, hown, hgr⟩ := hrel
      have hcl1 : cur.length ≤ l.length := by omega
      have hcl2 : l.length ≤ cur.length := by omega
      have hCL := Lib.hid hcl
      clear hcl
      by_cases hlt : j < l.length
      · have fz := hown.free j
        have q0 := (hown.cell (k := j) (by rw [intsZ_length]; omega)).trans (intsZ_at' (List.getElem?_eq_getElem (l := cur) (i := j) (by omega)))
        obtain ⟨x, hx⟩ : ∃ x, cur[j] = x := ⟨_, rfl⟩
        rw [hx] at q0
        clear hx
        have hM := Lib.hid (marksI_at k hlt)
        go_wp2
        go_roundw
        case rel =>
          refine ⟨j + 1, cur.set j (k + (j : Int)), by omega, by go_num, by go_num, by rw [List.length_set]; exact hCL.out, agreeI_set hag (by omega) hM.out, ?_, grown2 hgr (grownSet _ _ _ _)⟩
          have := hown.set j (.int .i64 (k + (j : Int)))
          rw [show (intsZ cur).set j (.int .i64 (k + (j : Int))) = intsZ (cur.set j (k + (j : Int))) by unfold intsZ; rw [List.map_set]] at this
          exact this
        case measure => simp [intOf]; omega
      · have hE := Lib.hid (agreeI_all (hCL.out.trans (marksI_length _ _).symm) (fun i hi => hag i (by omega)))
        have hjn : j = l.length := by omega
        have hJ := Lib.hid hjn
        clear hjn
        go_wp2
        go_ret
        exact ⟨by have := hJ.out; rw [this]; rfl, by have e := hE.out; rw [e] at hown; exact hown, hgr⟩

set_option maxRecDepth 100000 in
set_option maxHeartbeats 400000 in
theorem heldI_any (n : Nat) (v : Value) (base : Nat) (k : Int) (w : World) (h : VOwns 3 w base v (intsZ (marksI n k))) (hl : n ≤ 1000) (h0 : 0 ≤ k) (h1 : k ≤ 10000000) :
    Calls Try.prog 41 #[v, .int .i64 k] w (Gives (.int .i64 (k + (n : Int))) w) := by
  obtain ⟨A, c, rfl, hc, hm, hr⟩ := h.shape
  rw [intsZ_length, marksI_length] at hc hr h ⊢
  unfold maxLen at hm
  by_cases hz : n = 0
  · subst hz
    clear hr
    go_enter Try.func41, Try.ntmps41
    go_wp2
    go_rounds 2
    go_ret
    exact ⟨by simp, Below.refl _ _⟩
  · obtain ⟨g, rfl, hg1, hg2⟩ := hr (by omega)
    clear hz
    have HC := Lib.hid (fun j (hk : j < n) => (h.cell (k := j) (by rw [intsZ_length, marksI_length]; exact hk)).trans (intsZ_at' (marksI_at k hk)))
    go_enter Try.func41, Try.ntmps41
    go_wp2
    go_loopw [1, 5] (fun kk i wr => ∃ (j : Nat), j ≤ n ∧ i = .int .i64 j ∧ kk = .int .i64 (k + (j : Int)) ∧ Below w.heap.size w wr) (fun _ i _ => n - (intOf i).toNat)
    case atStart => exact ⟨0, Nat.zero_le _, rfl, by simp, Below.refl _ _⟩
    case round =>
      obtain ⟨j, hj, rfl, rfl, hbw⟩ := hrel
      by_cases hlt : j < n
      · have d0 := (hbw.cell (p := ⟨g, j, none⟩) hg2).trans (HC.out j hlt)
        go_wp2
        go_roundw
        case rel => exact ⟨j + 1, by omega, by go_num, by go_num, hbw⟩
        case measure => simp [intOf]; omega
      · have hjn : j = n := by omega
        have hJ := Lib.hid hjn
        clear hjn
        go_wp2
        go_ret
        exact ⟨by have := hJ.out; rw [this]; rfl, hbw⟩
end Go.Proofs.Ytbdmppejflokaaa
