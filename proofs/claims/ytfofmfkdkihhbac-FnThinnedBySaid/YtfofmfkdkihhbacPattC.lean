/- The program's ContainsFunc at the closures of patterns, and spotsOf with the rules of patterns: what holds at some spot of a list, and all spots of a list at which a rule holds. No conditions but those typed. -/
import Derived.Test.YtfofmfkdkihhbacHas2
import Derived.Test.YtfofmfkdkihhbacMove
import Derived.Test.YtfofmfkdkihhbacPlain
namespace Go.Proofs.Ytfofmfkdkihhbac
open Go.RowKit Go.Sort

def IdxIs (b : Bool) (w : World) (e : Ending) (w' : World) : Prop := ∃ i : Int, e = .returned (.int .i64 i) ∧ decide (0 ≤ i) = b ∧ Below w.heap.size w w'
def AnyUpto (f : Sp → Bool) (qs : List Sp) (k : Nat) : Prop := ∀ j d, j < k → qs[j]? = some d → f d = false
theorem AnyUpto.next {f : Sp → Bool} {qs : List Sp} {d : Sp} {k : Nat} (h : AnyUpto f qs k) (hd : qs[k]? = some d) (hm : f d = false) : AnyUpto f qs (k + 1) := fun j x hj hx => by
  by_cases e : j = k
  · subst e; rw [hd] at hx; cases hx; exact hm
  · exact h j x (by omega) hx
theorem any_yes {f : Sp → Bool} {qs : List Sp} {d : Sp} {k : Nat} (hd : qs[k]? = some d) (hm : f d = true) : qs.any f = true := List.any_eq_true.2 ⟨d, List.mem_of_getElem? hd, hm⟩
theorem any_no {f : Sp → Bool} {qs : List Sp} (h : AnyUpto f qs qs.length) : qs.any f = false := by
  rw [List.any_eq_false]
  intro d hd
  obtain ⟨j, hj⟩ := List.mem_iff_getElem?.1 hd
  rw [h j d (List.getElem?_eq_some_iff.1 hj).1 hj]; exact Bool.false_ne_true

set_option maxHeartbeats 800000 in
theorem containsFar.idx (f : Sp → Bool) (qs : List Sp) (u : Value)  (w : World) (k : Reads w w.heap.size u qs)
    (hf : ∀ (x y : Int) (w1 : World), (x, y) ∈ qs → Below w.heap.size w w1 → Calls Try.prog 93 #[.agg #[.int .i64 x, .int .i64 y]] w1 (Gives (.bool (f (x, y))) w1)) :
    Calls Try.prog 97 #[u, .func (.func 93) #[] #[]] w (IdxIs (qs.any f) w) := by
  obtain ⟨A, c, rfl, hc, hm, hA, hr⟩ := k.is
  unfold maxLen at hm
  have HF := Lib.hid hf
  clear hf
  have b0 := Below.refl w.heap.size w
  have hp0 : AnyUpto f qs 0 := fun j d hj => by omega
  go_enter Try.func97, Try.ntmps97
  go_wp2
  by_cases h0 : qs.length = 0
  · have HZ := Lib.hid (any_no (f := f) (qs := qs) (by rw [h0]; exact hp0))
    obtain rfl := List.eq_nil_of_length_eq_zero h0
    refine wp_loop_rounds 1 ?_
    rw [rounds_succ]
    go_wp2
    go_ret
    exact ⟨_, rfl, by rw [HZ.out]; rfl, b0⟩
  · obtain ⟨b, off, rfl, hb, hcell⟩ := hr (by omega)
    go_loopw [8] (fun i wr => ∃ j : Nat, j ≤ qs.length ∧ i = .int .i64 j ∧ AnyUpto f qs j ∧ Below w.heap.size w wr) (fun i _ => qs.length - (intOf i).toNat)
    case atStart => exact ⟨0, Nat.zero_le _, rfl, hp0, b0⟩
    case round =>
      obtain ⟨j, hj, rfl, hI, hbw⟩ := hrel
      have HI := Lib.hid hI
      clear hI hp0
      have hbs := hbw.size
      by_cases hlt : j < qs.length
      · obtain ⟨⟨x, y⟩, hxy⟩ : ∃ a, qs[j]? = some a := ⟨_, List.getElem?_eq_getElem hlt⟩
        obtain ⟨c0, c1⟩ := hcell j x y hxy
        have d0 := (hbw.cell (p := ⟨b, off + j * 2, none⟩) hb).trans c0
        have d1 := (hbw.cell (p := ⟨b, off + j * 2 + 1, none⟩) hb).trans c1
        have hcl := HF.out x y wr (List.mem_of_getElem? hxy) hbw
        rcases hfx : f (x, y) with _ | _
        · have HN := Lib.hid (HI.out.next hxy hfx)
          rw [hfx] at hcl
          clear hxy c0 c1 hfx
          go_wp2_with fail
          refine hcl.mono ?_
          rintro e w1 ⟨rfl, b1⟩
          have bw1 := below_step hbw b1
          go_wp2
          go_roundw
          case rel => exact ⟨j + 1, by omega, by go_num, HN.out, bw1⟩
          case measure => simp [intOf]; omega
        · have HN := Lib.hid (any_yes hxy hfx)
          rw [hfx] at hcl
          clear hxy c0 c1 hfx
          go_wp2_with fail
          refine hcl.mono ?_
          rintro e w1 ⟨rfl, b1⟩
          have bw1 := below_step hbw b1
          go_wp2
          go_ret
          exact ⟨_, rfl, by rw [HN.out]; simp, bw1⟩
      · obtain rfl : j = qs.length := by omega
        have HN := Lib.hid (any_no HI.out)
        go_wp2
        go_ret
        exact ⟨_, rfl, by rw [HN.out]; rfl, hbw⟩
theorem containsFar (f : Sp → Bool) (qs : List Sp) (u : Value)  (w : World) (k : Reads w w.heap.size u qs)
    (hf : ∀ (x y : Int) (w1 : World), (x, y) ∈ qs → Below w.heap.size w w1 → Calls Try.prog 93 #[.agg #[.int .i64 x, .int .i64 y]] w1 (Gives (.bool (f (x, y))) w1)) :
    Calls Try.prog 83 #[u, .func (.func 93) #[] #[]] w (Gives (.bool (qs.any f)) w) := by
  have hcl := containsFar.idx f qs u  w k hf
  obtain ⟨A, c, rfl, hc, hm⟩ := k.slice
  clear hf
  go_enter Try.func83, Try.ntmps83
  go_wp2_with fail
  refine hcl.mono ?_
  rintro e w1 ⟨i, rfl, hi, b1⟩
  have HI := Lib.hid hi
  clear hi
  go_wp2
  go_ret
  exact ⟨ret_bool HI.out, b1⟩
set_option maxHeartbeats 800000 in
theorem containsThere.idx (f : Sp → Bool) (qs : List Sp) (u : Value) (Q P : Nat) (w : World) (k : Reads w w.heap.size u qs)
    (hf : ∀ (x y : Int) (w1 : World), (x, y) ∈ qs → Below w.heap.size w w1 → Calls Try.prog 95 #[.agg #[.int .i64 x, .int .i64 y], .pointer (some ⟨Q, 0, none⟩), .pointer (some ⟨P, 0, none⟩)] w1 (Gives (.bool (f (x, y))) w1)) :
    Calls Try.prog 97 #[u, .func (.func 95) #[] #[.pointer (some ⟨Q, 0, none⟩), .pointer (some ⟨P, 0, none⟩)]] w (IdxIs (qs.any f) w) := by
  obtain ⟨A, c, rfl, hc, hm, hA, hr⟩ := k.is
  unfold maxLen at hm
  have HF := Lib.hid hf
  clear hf
  have b0 := Below.refl w.heap.size w
  have hp0 : AnyUpto f qs 0 := fun j d hj => by omega
  go_enter Try.func97, Try.ntmps97
  go_wp2
  by_cases h0 : qs.length = 0
  · have HZ := Lib.hid (any_no (f := f) (qs := qs) (by rw [h0]; exact hp0))
    obtain rfl := List.eq_nil_of_length_eq_zero h0
    refine wp_loop_rounds 1 ?_
    rw [rounds_succ]
    go_wp2
    go_ret
    exact ⟨_, rfl, by rw [HZ.out]; rfl, b0⟩
  · obtain ⟨b, off, rfl, hb, hcell⟩ := hr (by omega)
    go_loopw [8] (fun i wr => ∃ j : Nat, j ≤ qs.length ∧ i = .int .i64 j ∧ AnyUpto f qs j ∧ Below w.heap.size w wr) (fun i _ => qs.length - (intOf i).toNat)
    case atStart => exact ⟨0, Nat.zero_le _, rfl, hp0, b0⟩
    case round =>
      obtain ⟨j, hj, rfl, hI, hbw⟩ := hrel
      have HI := Lib.hid hI
      clear hI hp0
      have hbs := hbw.size
      by_cases hlt : j < qs.length
      · obtain ⟨⟨x, y⟩, hxy⟩ : ∃ a, qs[j]? = some a := ⟨_, List.getElem?_eq_getElem hlt⟩
        obtain ⟨c0, c1⟩ := hcell j x y hxy
        have d0 := (hbw.cell (p := ⟨b, off + j * 2, none⟩) hb).trans c0
        have d1 := (hbw.cell (p := ⟨b, off + j * 2 + 1, none⟩) hb).trans c1
        have hcl := HF.out x y wr (List.mem_of_getElem? hxy) hbw
        rcases hfx : f (x, y) with _ | _
        · have HN := Lib.hid (HI.out.next hxy hfx)
          rw [hfx] at hcl
          clear hxy c0 c1 hfx
          go_wp2_with fail
          refine hcl.mono ?_
          rintro e w1 ⟨rfl, b1⟩
          have bw1 := below_step hbw b1
          go_wp2
          go_roundw
          case rel => exact ⟨j + 1, by omega, by go_num, HN.out, bw1⟩
          case measure => simp [intOf]; omega
        · have HN := Lib.hid (any_yes hxy hfx)
          rw [hfx] at hcl
          clear hxy c0 c1 hfx
          go_wp2_with fail
          refine hcl.mono ?_
          rintro e w1 ⟨rfl, b1⟩
          have bw1 := below_step hbw b1
          go_wp2
          go_ret
          exact ⟨_, rfl, by rw [HN.out]; simp, bw1⟩
      · obtain rfl : j = qs.length := by omega
        have HN := Lib.hid (any_no HI.out)
        go_wp2
        go_ret
        exact ⟨_, rfl, by rw [HN.out]; rfl, hbw⟩
theorem containsThere (f : Sp → Bool) (qs : List Sp) (u : Value) (Q P : Nat) (w : World) (k : Reads w w.heap.size u qs)
    (hf : ∀ (x y : Int) (w1 : World), (x, y) ∈ qs → Below w.heap.size w w1 → Calls Try.prog 95 #[.agg #[.int .i64 x, .int .i64 y], .pointer (some ⟨Q, 0, none⟩), .pointer (some ⟨P, 0, none⟩)] w1 (Gives (.bool (f (x, y))) w1)) :
    Calls Try.prog 83 #[u, .func (.func 95) #[] #[.pointer (some ⟨Q, 0, none⟩), .pointer (some ⟨P, 0, none⟩)]] w (Gives (.bool (qs.any f)) w) := by
  have hcl := containsThere.idx f qs u Q P w k hf
  obtain ⟨A, c, rfl, hc, hm⟩ := k.slice
  clear hf
  go_enter Try.func83, Try.ntmps83
  go_wp2_with fail
  refine hcl.mono ?_
  rintro e w1 ⟨i, rfl, hi, b1⟩
  have HI := Lib.hid hi
  clear hi
  go_wp2
  go_ret
  exact ⟨ret_bool HI.out, b1⟩
set_option maxHeartbeats 800000 in
theorem containsNot.idx (f : Sp → Bool) (qs : List Sp) (u : Value) (Q : Nat) (w : World) (k : Reads w w.heap.size u qs)
    (hf : ∀ (x y : Int) (w1 : World), (x, y) ∈ qs → Below w.heap.size w w1 → Calls Try.prog 96 #[.agg #[.int .i64 x, .int .i64 y], .pointer (some ⟨Q, 0, none⟩)] w1 (Gives (.bool (f (x, y))) w1)) :
    Calls Try.prog 97 #[u, .func (.func 96) #[] #[.pointer (some ⟨Q, 0, none⟩)]] w (IdxIs (qs.any f) w) := by
  obtain ⟨A, c, rfl, hc, hm, hA, hr⟩ := k.is
  unfold maxLen at hm
  have HF := Lib.hid hf
  clear hf
  have b0 := Below.refl w.heap.size w
  have hp0 : AnyUpto f qs 0 := fun j d hj => by omega
  go_enter Try.func97, Try.ntmps97
  go_wp2
  by_cases h0 : qs.length = 0
  · have HZ := Lib.hid (any_no (f := f) (qs := qs) (by rw [h0]; exact hp0))
    obtain rfl := List.eq_nil_of_length_eq_zero h0
    refine wp_loop_rounds 1 ?_
    rw [rounds_succ]
    go_wp2
    go_ret
    exact ⟨_, rfl, by rw [HZ.out]; rfl, b0⟩
  · obtain ⟨b, off, rfl, hb, hcell⟩ := hr (by omega)
    go_loopw [8] (fun i wr => ∃ j : Nat, j ≤ qs.length ∧ i = .int .i64 j ∧ AnyUpto f qs j ∧ Below w.heap.size w wr) (fun i _ => qs.length - (intOf i).toNat)
    case atStart => exact ⟨0, Nat.zero_le _, rfl, hp0, b0⟩
    case round =>
      obtain ⟨j, hj, rfl, hI, hbw⟩ := hrel
      have HI := Lib.hid hI
      clear hI hp0
      have hbs := hbw.size
      by_cases hlt : j < qs.length
      · obtain ⟨⟨x, y⟩, hxy⟩ : ∃ a, qs[j]? = some a := ⟨_, List.getElem?_eq_getElem hlt⟩
        obtain ⟨c0, c1⟩ := hcell j x y hxy
        have d0 := (hbw.cell (p := ⟨b, off + j * 2, none⟩) hb).trans c0
        have d1 := (hbw.cell (p := ⟨b, off + j * 2 + 1, none⟩) hb).trans c1
        have hcl := HF.out x y wr (List.mem_of_getElem? hxy) hbw
        rcases hfx : f (x, y) with _ | _
        · have HN := Lib.hid (HI.out.next hxy hfx)
          rw [hfx] at hcl
          clear hxy c0 c1 hfx
          go_wp2_with fail
          refine hcl.mono ?_
          rintro e w1 ⟨rfl, b1⟩
          have bw1 := below_step hbw b1
          go_wp2
          go_roundw
          case rel => exact ⟨j + 1, by omega, by go_num, HN.out, bw1⟩
          case measure => simp [intOf]; omega
        · have HN := Lib.hid (any_yes hxy hfx)
          rw [hfx] at hcl
          clear hxy c0 c1 hfx
          go_wp2_with fail
          refine hcl.mono ?_
          rintro e w1 ⟨rfl, b1⟩
          have bw1 := below_step hbw b1
          go_wp2
          go_ret
          exact ⟨_, rfl, by rw [HN.out]; simp, bw1⟩
      · obtain rfl : j = qs.length := by omega
        have HN := Lib.hid (any_no HI.out)
        go_wp2
        go_ret
        exact ⟨_, rfl, by rw [HN.out]; rfl, hbw⟩
theorem containsNot (f : Sp → Bool) (qs : List Sp) (u : Value) (Q : Nat) (w : World) (k : Reads w w.heap.size u qs)
    (hf : ∀ (x y : Int) (w1 : World), (x, y) ∈ qs → Below w.heap.size w w1 → Calls Try.prog 96 #[.agg #[.int .i64 x, .int .i64 y], .pointer (some ⟨Q, 0, none⟩)] w1 (Gives (.bool (f (x, y))) w1)) :
    Calls Try.prog 83 #[u, .func (.func 96) #[] #[.pointer (some ⟨Q, 0, none⟩)]] w (Gives (.bool (qs.any f)) w) := by
  have hcl := containsNot.idx f qs u Q w k hf
  obtain ⟨A, c, rfl, hc, hm⟩ := k.slice
  clear hf
  go_enter Try.func83, Try.ntmps83
  go_wp2_with fail
  refine hcl.mono ?_
  rintro e w1 ⟨i, rfl, hi, b1⟩
  have HI := Lib.hid hi
  clear hi
  go_wp2
  go_ret
  exact ⟨ret_bool HI.out, b1⟩

/-! ### spotsOf: all spots of a list at which a rule holds -/
set_option maxHeartbeats 800000 in
theorem spotsPat.step (f : Sp → Bool) (M H : Nat) (R base : Nat) (acc : List Sp) (v : Value) (ax ay : Int) (w : World) (hown : Owns w base v acc) (hbase : base ≤ w.heap.size) (hR : R < base)
    (hcell : w.cell? ⟨R, 0, none⟩ = some (.func (.func 78) #[] #[.pointer (some ⟨M, 0, none⟩), .pointer (some ⟨H, 0, none⟩)])) (hl : acc.length ≤ 100000)
    (hf : ∀ w1 : World, Below w.heap.size w w1 → Calls Try.prog 78 #[.agg #[.int .i64 ax, .int .i64 ay], .pointer (some ⟨M, 0, none⟩), .pointer (some ⟨H, 0, none⟩)] w1 (Gives (.bool (f (ax, ay))) w1)) :
    Calls Try.prog 75 #[v, .agg #[.int .i64 ax, .int .i64 ay], .pointer (some ⟨R, 0, none⟩)] w fun e w' => ∃ v', e = .returned v' ∧ Owns w' base v' (acc ++ if f (ax, ay) then [(ax, ay)] else []) ∧ Below base w w' := by
  obtain ⟨A, c, rfl, hc, hm⟩ := hown.reads.slice
  unfold maxLen at hm
  have b0 := box_below w #[.int .i64 ax, .int .i64 ay] 35
  have hRw : R < w.heap.size := by omega
  obtain ⟨W, hW⟩ : ∃ W, W = w.alloc (.cells #[.int .i64 ax, .int .i64 ay] 35) := ⟨_, rfl⟩
  have q0 : W.cell? ⟨w.heap.size, 0, none⟩ = some (.int .i64 ax) := by rw [hW]; simp [go_sem]
  have q1 : W.cell? ⟨w.heap.size, 1, none⟩ = some (.int .i64 ay) := by rw [hW]; simp [go_sem]
  have s0 : w.heap.size < W.heap.size := by rw [hW]; simp
  rw [← hW] at b0
  have hcW := (b0.cell (p := ⟨R, 0, none⟩) hRw).trans hcell
  have ownW := hown.below b0
  have bW : Below base w W := b0.mono hbase
  have hbW := bW.size
  have hfW := hf W b0
  clear hf hcell
  go_enter Try.func75, Try.ntmps75
  rcases hfx : f (ax, ay) with _ | _
  · rw [hfx] at hfW
    clear hfx
    go_wp2_with (first | (rw [← hW]; clear hW) | fail)
    refine hfW.mono ?_
    rintro e w1 ⟨rfl, b1⟩
    go_wp2
    go_ret
    exact ⟨_, rfl, by simpa using ownW.below b1, bW.trans (b1.mono (by omega))⟩
  · rw [hfx] at hfW
    clear hfx
    go_wp2_with (first | (rw [← hW]; clear hW) | fail)
    refine hfW.mono ?_
    rintro e w1 ⟨rfl, b1⟩
    have q0 := (b1.cell (p := ⟨w.heap.size, 0, none⟩) s0).trans q0
    have q1 := (b1.cell (p := ⟨w.heap.size, 1, none⟩) s0).trans q1
    have own1 := ownW.below b1
    have bw1 := bW.trans (b1.mono (by omega))
    have hb1 := b1.size
    have b2 : Below w1.heap.size w1 (w1.alloc (.cells #[.int .i64 ax, .int .i64 ay] 35)) := box_below _ _ _
    have own2 := own1.below b2
    go_wp2_with (at_builtin; refine wpList_append_spots (qs := [(ax, ay)]) own2 (Reads.one (g := w1.heap.size) (by simp [go_sem]) (by simp [go_sem])) (by simp only [List.length_cons, List.length_nil]; omega) (by simp only [World.size_alloc]; omega) rfl (.tmp 9) (.tmp 11) rfl rfl rfl ?_)
    intro v4 w4 own4 g4 hv4
    have bw4 := own2.below_app (bw1.alloc (by omega) _) (by simp only [World.size_alloc]; omega) g4
    go_wp2
    go_ret
    exact ⟨_, rfl, by simpa using own4, bw4⟩
set_option maxHeartbeats 800000 in
theorem spotsPat.fold (f : Sp → Bool) (M H : Nat) (R : Nat) (ps : List Sp) (v : Value) (w : World) (hv : Reads w w.heap.size v ps) (hR : R < w.heap.size)
    (hcell : w.cell? ⟨R, 0, none⟩ = some (.func (.func 78) #[] #[.pointer (some ⟨M, 0, none⟩), .pointer (some ⟨H, 0, none⟩)])) (hl : ps.length ≤ 100000)
    (hf : ∀ (x y : Int) (w1 : World), (x, y) ∈ ps → Below w.heap.size w w1 → Calls Try.prog 78 #[.agg #[.int .i64 x, .int .i64 y], .pointer (some ⟨M, 0, none⟩), .pointer (some ⟨H, 0, none⟩)] w1 (Gives (.bool (f (x, y))) w1)) :
    Calls Try.prog 74 #[v, .slice none 0 0, .func (.func 75) #[] #[.pointer (some ⟨R, 0, none⟩)]] w fun e w' => ∃ v', e = .returned v' ∧ Owns w' w.heap.size v' (ps.filter f) ∧ Below w.heap.size w w' := by
  obtain ⟨A, c, rfl, hc, hm, hA, hcp⟩ := hv.is
  unfold maxLen at hm
  have HF := Lib.hid hf
  clear hf
  go_enter Try.func74, Try.ntmps74
  go_wp2
  have b0 := Below.refl w.heap.size w
  by_cases h0 : ps.length = 0
  · obtain rfl := List.eq_nil_of_length_eq_zero h0
    refine wp_loop_rounds 1 ?_
    rw [rounds_succ]
    go_wp2
    go_ret
    exact ⟨_, rfl, Owns.nil _ _, b0⟩
  · obtain ⟨b, off, rfl, hb, hcp⟩ := hcp (by omega)
    go_loopw [7, 13] (fun s i wr => ∃ k : Nat, k ≤ ps.length ∧ i = .int .i64 k ∧ Owns wr w.heap.size s ((ps.take k).filter f) ∧ Below w.heap.size w wr) (fun _ i _ => ps.length - (intOf i).toNat)
    case atStart => exact ⟨0, Nat.zero_le _, rfl, Owns.nil _ _, b0⟩
    case round =>
      obtain ⟨k, hk, rfl, hown, hbw⟩ := hrel
      by_cases hlt : k < ps.length
      · obtain ⟨⟨x, y⟩, hxy⟩ : ∃ a, ps[k]? = some a := ⟨_, List.getElem?_eq_getElem hlt⟩
        obtain ⟨c0, c1⟩ := hcp k x y hxy
        have d0 := (hbw.cell (p := ⟨b, off + k * 2, none⟩) hb).trans c0
        have d1 := (hbw.cell (p := ⟨b, off + k * 2 + 1, none⟩) hb).trans c1
        have hT := Lib.hid (filt_succ (f := f) hxy)
        have hle : ((ps.take k).filter f).length ≤ 100000 := Nat.le_trans (filt_len ps f k) hl
        have hbs := hbw.size
        have hal : Below wr.heap.size wr (wr.alloc (.cells #[.int .i64 x, .int .i64 y] 35)) := (Below.refl _ _).alloc (Nat.le_refl _) _
        have bw1 := hbw.trans (hal.mono hbs)
        have own1 := hown.below hal
        have hst := spotsPat.step f M H R w.heap.size _ _ x y (wr.alloc (.cells #[.int .i64 x, .int .i64 y] 35)) own1 bw1.size hR ((bw1.cell (p := ⟨R, 0, none⟩) hR).trans hcell) hle (fun w2 hb2 => HF.out x y w2 (List.mem_of_getElem? hxy) (bw1.trans (hb2.mono bw1.size)))
        clear c0 c1 hxy
        go_wp2_with fail
        refine hst.mono ?_
        rintro e w2 ⟨v2, rfl, own2, b2⟩
        have bw2 := bw1.trans b2
        go_wp2
        go_roundw
        case rel => exact ⟨k + 1, by omega, by go_num, by rw [hT.out]; exact own2, bw2⟩
        case measure => simp [intOf]; omega
      · obtain rfl : k = ps.length := by omega
        rw [List.take_length] at hown
        go_wp2
        go_ret
        exact ⟨_, rfl, hown, hbw⟩
theorem spotsPat (f : Sp → Bool) (M H : Nat) (ps : List Sp) (v : Value) (w : World) (hv : Reads w w.heap.size v ps) (hl : ps.length ≤ 100000)
    (hf : ∀ (x y : Int) (w1 : World), (x, y) ∈ ps → Below w.heap.size w w1 → Calls Try.prog 78 #[.agg #[.int .i64 x, .int .i64 y], .pointer (some ⟨M, 0, none⟩), .pointer (some ⟨H, 0, none⟩)] w1 (Gives (.bool (f (x, y))) w1)) :
    Calls Try.prog 47 #[v, .func (.func 78) #[] #[.pointer (some ⟨M, 0, none⟩), .pointer (some ⟨H, 0, none⟩)]] w fun e w' => ∃ v', e = .returned v' ∧ Owns w' w.heap.size v' (ps.filter f) ∧ Below w.heap.size w w' := by
  have b0 := box_below w #[.func (.func 78) #[] #[.pointer (some ⟨M, 0, none⟩), .pointer (some ⟨H, 0, none⟩)]] 62
  obtain ⟨W, hW⟩ : ∃ W, W = w.alloc (.cells #[.func (.func 78) #[] #[.pointer (some ⟨M, 0, none⟩), .pointer (some ⟨H, 0, none⟩)]] 62) := ⟨_, rfl⟩
  have q0 : W.cell? ⟨w.heap.size, 0, none⟩ = some (.func (.func 78) #[] #[.pointer (some ⟨M, 0, none⟩), .pointer (some ⟨H, 0, none⟩)]) := by rw [hW]; simp [go_sem]
  have s0 : w.heap.size < W.heap.size := by rw [hW]; simp
  rw [← hW] at b0
  have hcl := spotsPat.fold f M H w.heap.size ps v W (hv.kept b0) s0 q0 hl (fun x y w1 hm hb => hf x y w1 hm (below_step b0 hb))
  obtain ⟨A, c, rfl, hc, hm⟩ := hv.slice
  clear hf
  go_enter Try.func47, Try.ntmps47
  go_wp2_with (first | (rw [← hW]; clear hW) | fail)
  refine hcl.mono ?_
  rintro e w1 ⟨v1, rfl, o1, b1⟩
  go_wp2
  go_ret
  exact ⟨_, rfl, o1.base b0.size, below_step b0 b1⟩
set_option maxHeartbeats 800000 in
theorem spotsThin.step (f : Sp → Bool) (F : Nat) (R base : Nat) (acc : List Sp) (v : Value) (ax ay : Int) (w : World) (hown : Owns w base v acc) (hbase : base ≤ w.heap.size) (hR : R < base)
    (hcell : w.cell? ⟨R, 0, none⟩ = some (.func (.func 58) #[] #[.pointer (some ⟨F, 0, none⟩)])) (hl : acc.length ≤ 100000)
    (hf : ∀ w1 : World, Below w.heap.size w w1 → Calls Try.prog 58 #[.agg #[.int .i64 ax, .int .i64 ay], .pointer (some ⟨F, 0, none⟩)] w1 (Gives (.bool (f (ax, ay))) w1)) :
    Calls Try.prog 75 #[v, .agg #[.int .i64 ax, .int .i64 ay], .pointer (some ⟨R, 0, none⟩)] w fun e w' => ∃ v', e = .returned v' ∧ Owns w' base v' (acc ++ if f (ax, ay) then [(ax, ay)] else []) ∧ Below base w w' := by
  obtain ⟨A, c, rfl, hc, hm⟩ := hown.reads.slice
  unfold maxLen at hm
  have b0 := box_below w #[.int .i64 ax, .int .i64 ay] 35
  have hRw : R < w.heap.size := by omega
  obtain ⟨W, hW⟩ : ∃ W, W = w.alloc (.cells #[.int .i64 ax, .int .i64 ay] 35) := ⟨_, rfl⟩
  have q0 : W.cell? ⟨w.heap.size, 0, none⟩ = some (.int .i64 ax) := by rw [hW]; simp [go_sem]
  have q1 : W.cell? ⟨w.heap.size, 1, none⟩ = some (.int .i64 ay) := by rw [hW]; simp [go_sem]
  have s0 : w.heap.size < W.heap.size := by rw [hW]; simp
  rw [← hW] at b0
  have hcW := (b0.cell (p := ⟨R, 0, none⟩) hRw).trans hcell
  have ownW := hown.below b0
  have bW : Below base w W := b0.mono hbase
  have hbW := bW.size
  have hfW := hf W b0
  clear hf hcell
  go_enter Try.func75, Try.ntmps75
  rcases hfx : f (ax, ay) with _ | _
  · rw [hfx] at hfW
    clear hfx
    go_wp2_with (first | (rw [← hW]; clear hW) | fail)
    refine hfW.mono ?_
    rintro e w1 ⟨rfl, b1⟩
    go_wp2
    go_ret
    exact ⟨_, rfl, by simpa using ownW.below b1, bW.trans (b1.mono (by omega))⟩
  · rw [hfx] at hfW
    clear hfx
    go_wp2_with (first | (rw [← hW]; clear hW) | fail)
    refine hfW.mono ?_
    rintro e w1 ⟨rfl, b1⟩
    have q0 := (b1.cell (p := ⟨w.heap.size, 0, none⟩) s0).trans q0
    have q1 := (b1.cell (p := ⟨w.heap.size, 1, none⟩) s0).trans q1
    have own1 := ownW.below b1
    have bw1 := bW.trans (b1.mono (by omega))
    have hb1 := b1.size
    have b2 : Below w1.heap.size w1 (w1.alloc (.cells #[.int .i64 ax, .int .i64 ay] 35)) := box_below _ _ _
    have own2 := own1.below b2
    go_wp2_with (at_builtin; refine wpList_append_spots (qs := [(ax, ay)]) own2 (Reads.one (g := w1.heap.size) (by simp [go_sem]) (by simp [go_sem])) (by simp only [List.length_cons, List.length_nil]; omega) (by simp only [World.size_alloc]; omega) rfl (.tmp 9) (.tmp 11) rfl rfl rfl ?_)
    intro v4 w4 own4 g4 hv4
    have bw4 := own2.below_app (bw1.alloc (by omega) _) (by simp only [World.size_alloc]; omega) g4
    go_wp2
    go_ret
    exact ⟨_, rfl, by simpa using own4, bw4⟩
set_option maxHeartbeats 800000 in
theorem spotsThin.fold (f : Sp → Bool) (F : Nat) (R : Nat) (ps : List Sp) (v : Value) (w : World) (hv : Reads w w.heap.size v ps) (hR : R < w.heap.size)
    (hcell : w.cell? ⟨R, 0, none⟩ = some (.func (.func 58) #[] #[.pointer (some ⟨F, 0, none⟩)])) (hl : ps.length ≤ 100000)
    (hf : ∀ (x y : Int) (w1 : World), (x, y) ∈ ps → Below w.heap.size w w1 → Calls Try.prog 58 #[.agg #[.int .i64 x, .int .i64 y], .pointer (some ⟨F, 0, none⟩)] w1 (Gives (.bool (f (x, y))) w1)) :
    Calls Try.prog 74 #[v, .slice none 0 0, .func (.func 75) #[] #[.pointer (some ⟨R, 0, none⟩)]] w fun e w' => ∃ v', e = .returned v' ∧ Owns w' w.heap.size v' (ps.filter f) ∧ Below w.heap.size w w' := by
  obtain ⟨A, c, rfl, hc, hm, hA, hcp⟩ := hv.is
  unfold maxLen at hm
  have HF := Lib.hid hf
  clear hf
  go_enter Try.func74, Try.ntmps74
  go_wp2
  have b0 := Below.refl w.heap.size w
  by_cases h0 : ps.length = 0
  · obtain rfl := List.eq_nil_of_length_eq_zero h0
    refine wp_loop_rounds 1 ?_
    rw [rounds_succ]
    go_wp2
    go_ret
    exact ⟨_, rfl, Owns.nil _ _, b0⟩
  · obtain ⟨b, off, rfl, hb, hcp⟩ := hcp (by omega)
    go_loopw [7, 13] (fun s i wr => ∃ k : Nat, k ≤ ps.length ∧ i = .int .i64 k ∧ Owns wr w.heap.size s ((ps.take k).filter f) ∧ Below w.heap.size w wr) (fun _ i _ => ps.length - (intOf i).toNat)
    case atStart => exact ⟨0, Nat.zero_le _, rfl, Owns.nil _ _, b0⟩
    case round =>
      obtain ⟨k, hk, rfl, hown, hbw⟩ := hrel
      by_cases hlt : k < ps.length
      · obtain ⟨⟨x, y⟩, hxy⟩ : ∃ a, ps[k]? = some a := ⟨_, List.getElem?_eq_getElem hlt⟩
        obtain ⟨c0, c1⟩ := hcp k x y hxy
        have d0 := (hbw.cell (p := ⟨b, off + k * 2, none⟩) hb).trans c0
        have d1 := (hbw.cell (p := ⟨b, off + k * 2 + 1, none⟩) hb).trans c1
        have hT := Lib.hid (filt_succ (f := f) hxy)
        have hle : ((ps.take k).filter f).length ≤ 100000 := Nat.le_trans (filt_len ps f k) hl
        have hbs := hbw.size
        have hal : Below wr.heap.size wr (wr.alloc (.cells #[.int .i64 x, .int .i64 y] 35)) := (Below.refl _ _).alloc (Nat.le_refl _) _
        have bw1 := hbw.trans (hal.mono hbs)
        have own1 := hown.below hal
        have hst := spotsThin.step f F R w.heap.size _ _ x y (wr.alloc (.cells #[.int .i64 x, .int .i64 y] 35)) own1 bw1.size hR ((bw1.cell (p := ⟨R, 0, none⟩) hR).trans hcell) hle (fun w2 hb2 => HF.out x y w2 (List.mem_of_getElem? hxy) (bw1.trans (hb2.mono bw1.size)))
        clear c0 c1 hxy
        go_wp2_with fail
        refine hst.mono ?_
        rintro e w2 ⟨v2, rfl, own2, b2⟩
        have bw2 := bw1.trans b2
        go_wp2
        go_roundw
        case rel => exact ⟨k + 1, by omega, by go_num, by rw [hT.out]; exact own2, bw2⟩
        case measure => simp [intOf]; omega
      · obtain rfl : k = ps.length := by omega
        rw [List.take_length] at hown
        go_wp2
        go_ret
        exact ⟨_, rfl, hown, hbw⟩
theorem spotsThin (f : Sp → Bool) (F : Nat) (ps : List Sp) (v : Value) (w : World) (hv : Reads w w.heap.size v ps) (hl : ps.length ≤ 100000)
    (hf : ∀ (x y : Int) (w1 : World), (x, y) ∈ ps → Below w.heap.size w w1 → Calls Try.prog 58 #[.agg #[.int .i64 x, .int .i64 y], .pointer (some ⟨F, 0, none⟩)] w1 (Gives (.bool (f (x, y))) w1)) :
    Calls Try.prog 47 #[v, .func (.func 58) #[] #[.pointer (some ⟨F, 0, none⟩)]] w fun e w' => ∃ v', e = .returned v' ∧ Owns w' w.heap.size v' (ps.filter f) ∧ Below w.heap.size w w' := by
  have b0 := box_below w #[.func (.func 58) #[] #[.pointer (some ⟨F, 0, none⟩)]] 62
  obtain ⟨W, hW⟩ : ∃ W, W = w.alloc (.cells #[.func (.func 58) #[] #[.pointer (some ⟨F, 0, none⟩)]] 62) := ⟨_, rfl⟩
  have q0 : W.cell? ⟨w.heap.size, 0, none⟩ = some (.func (.func 58) #[] #[.pointer (some ⟨F, 0, none⟩)]) := by rw [hW]; simp [go_sem]
  have s0 : w.heap.size < W.heap.size := by rw [hW]; simp
  rw [← hW] at b0
  have hcl := spotsThin.fold f F w.heap.size ps v W (hv.kept b0) s0 q0 hl (fun x y w1 hm hb => hf x y w1 hm (below_step b0 hb))
  obtain ⟨A, c, rfl, hc, hm⟩ := hv.slice
  clear hf
  go_enter Try.func47, Try.ntmps47
  go_wp2_with (first | (rw [← hW]; clear hW) | fail)
  refine hcl.mono ?_
  rintro e w1 ⟨v1, rfl, o1, b1⟩
  go_wp2
  go_ret
  exact ⟨_, rfl, o1.base b0.size, below_step b0 b1⟩
set_option maxHeartbeats 800000 in
theorem spotsRing.step (f : Sp → Bool)  (R base : Nat) (acc : List Sp) (v : Value) (ax ay : Int) (w : World) (hown : Owns w base v acc) (hbase : base ≤ w.heap.size) (hR : R < base)
    (hcell : w.cell? ⟨R, 0, none⟩ = some (.func (.func 99) #[] #[])) (hl : acc.length ≤ 100000)
    (hf : ∀ w1 : World, Below w.heap.size w w1 → Calls Try.prog 99 #[.agg #[.int .i64 ax, .int .i64 ay]] w1 (Gives (.bool (f (ax, ay))) w1)) :
    Calls Try.prog 75 #[v, .agg #[.int .i64 ax, .int .i64 ay], .pointer (some ⟨R, 0, none⟩)] w fun e w' => ∃ v', e = .returned v' ∧ Owns w' base v' (acc ++ if f (ax, ay) then [(ax, ay)] else []) ∧ Below base w w' := by
  obtain ⟨A, c, rfl, hc, hm⟩ := hown.reads.slice
  unfold maxLen at hm
  have b0 := box_below w #[.int .i64 ax, .int .i64 ay] 35
  have hRw : R < w.heap.size := by omega
  obtain ⟨W, hW⟩ : ∃ W, W = w.alloc (.cells #[.int .i64 ax, .int .i64 ay] 35) := ⟨_, rfl⟩
  have q0 : W.cell? ⟨w.heap.size, 0, none⟩ = some (.int .i64 ax) := by rw [hW]; simp [go_sem]
  have q1 : W.cell? ⟨w.heap.size, 1, none⟩ = some (.int .i64 ay) := by rw [hW]; simp [go_sem]
  have s0 : w.heap.size < W.heap.size := by rw [hW]; simp
  rw [← hW] at b0
  have hcW := (b0.cell (p := ⟨R, 0, none⟩) hRw).trans hcell
  have ownW := hown.below b0
  have bW : Below base w W := b0.mono hbase
  have hbW := bW.size
  have hfW := hf W b0
  clear hf hcell
  go_enter Try.func75, Try.ntmps75
  rcases hfx : f (ax, ay) with _ | _
  · rw [hfx] at hfW
    clear hfx
    go_wp2_with (first | (rw [← hW]; clear hW) | fail)
    refine hfW.mono ?_
    rintro e w1 ⟨rfl, b1⟩
    go_wp2
    go_ret
    exact ⟨_, rfl, by simpa using ownW.below b1, bW.trans (b1.mono (by omega))⟩
  · rw [hfx] at hfW
    clear hfx
    go_wp2_with (first | (rw [← hW]; clear hW) | fail)
    refine hfW.mono ?_
    rintro e w1 ⟨rfl, b1⟩
    have q0 := (b1.cell (p := ⟨w.heap.size, 0, none⟩) s0).trans q0
    have q1 := (b1.cell (p := ⟨w.heap.size, 1, none⟩) s0).trans q1
    have own1 := ownW.below b1
    have bw1 := bW.trans (b1.mono (by omega))
    have hb1 := b1.size
    have b2 : Below w1.heap.size w1 (w1.alloc (.cells #[.int .i64 ax, .int .i64 ay] 35)) := box_below _ _ _
    have own2 := own1.below b2
    go_wp2_with (at_builtin; refine wpList_append_spots (qs := [(ax, ay)]) own2 (Reads.one (g := w1.heap.size) (by simp [go_sem]) (by simp [go_sem])) (by simp only [List.length_cons, List.length_nil]; omega) (by simp only [World.size_alloc]; omega) rfl (.tmp 9) (.tmp 11) rfl rfl rfl ?_)
    intro v4 w4 own4 g4 hv4
    have bw4 := own2.below_app (bw1.alloc (by omega) _) (by simp only [World.size_alloc]; omega) g4
    go_wp2
    go_ret
    exact ⟨_, rfl, by simpa using own4, bw4⟩
set_option maxHeartbeats 800000 in
theorem spotsRing.fold (f : Sp → Bool)  (R : Nat) (ps : List Sp) (v : Value) (w : World) (hv : Reads w w.heap.size v ps) (hR : R < w.heap.size)
    (hcell : w.cell? ⟨R, 0, none⟩ = some (.func (.func 99) #[] #[])) (hl : ps.length ≤ 100000)
    (hf : ∀ (x y : Int) (w1 : World), (x, y) ∈ ps → Below w.heap.size w w1 → Calls Try.prog 99 #[.agg #[.int .i64 x, .int .i64 y]] w1 (Gives (.bool (f (x, y))) w1)) :
    Calls Try.prog 74 #[v, .slice none 0 0, .func (.func 75) #[] #[.pointer (some ⟨R, 0, none⟩)]] w fun e w' => ∃ v', e = .returned v' ∧ Owns w' w.heap.size v' (ps.filter f) ∧ Below w.heap.size w w' := by
  obtain ⟨A, c, rfl, hc, hm, hA, hcp⟩ := hv.is
  unfold maxLen at hm
  have HF := Lib.hid hf
  clear hf
  go_enter Try.func74, Try.ntmps74
  go_wp2
  have b0 := Below.refl w.heap.size w
  by_cases h0 : ps.length = 0
  · obtain rfl := List.eq_nil_of_length_eq_zero h0
    refine wp_loop_rounds 1 ?_
    rw [rounds_succ]
    go_wp2
    go_ret
    exact ⟨_, rfl, Owns.nil _ _, b0⟩
  · obtain ⟨b, off, rfl, hb, hcp⟩ := hcp (by omega)
    go_loopw [7, 13] (fun s i wr => ∃ k : Nat, k ≤ ps.length ∧ i = .int .i64 k ∧ Owns wr w.heap.size s ((ps.take k).filter f) ∧ Below w.heap.size w wr) (fun _ i _ => ps.length - (intOf i).toNat)
    case atStart => exact ⟨0, Nat.zero_le _, rfl, Owns.nil _ _, b0⟩
    case round =>
      obtain ⟨k, hk, rfl, hown, hbw⟩ := hrel
      by_cases hlt : k < ps.length
      · obtain ⟨⟨x, y⟩, hxy⟩ : ∃ a, ps[k]? = some a := ⟨_, List.getElem?_eq_getElem hlt⟩
        obtain ⟨c0, c1⟩ := hcp k x y hxy
        have d0 := (hbw.cell (p := ⟨b, off + k * 2, none⟩) hb).trans c0
        have d1 := (hbw.cell (p := ⟨b, off + k * 2 + 1, none⟩) hb).trans c1
        have hT := Lib.hid (filt_succ (f := f) hxy)
        have hle : ((ps.take k).filter f).length ≤ 100000 := Nat.le_trans (filt_len ps f k) hl
        have hbs := hbw.size
        have hal : Below wr.heap.size wr (wr.alloc (.cells #[.int .i64 x, .int .i64 y] 35)) := (Below.refl _ _).alloc (Nat.le_refl _) _
        have bw1 := hbw.trans (hal.mono hbs)
        have own1 := hown.below hal
        have hst := spotsRing.step f  R w.heap.size _ _ x y (wr.alloc (.cells #[.int .i64 x, .int .i64 y] 35)) own1 bw1.size hR ((bw1.cell (p := ⟨R, 0, none⟩) hR).trans hcell) hle (fun w2 hb2 => HF.out x y w2 (List.mem_of_getElem? hxy) (bw1.trans (hb2.mono bw1.size)))
        clear c0 c1 hxy
        go_wp2_with fail
        refine hst.mono ?_
        rintro e w2 ⟨v2, rfl, own2, b2⟩
        have bw2 := bw1.trans b2
        go_wp2
        go_roundw
        case rel => exact ⟨k + 1, by omega, by go_num, by rw [hT.out]; exact own2, bw2⟩
        case measure => simp [intOf]; omega
      · obtain rfl : k = ps.length := by omega
        rw [List.take_length] at hown
        go_wp2
        go_ret
        exact ⟨_, rfl, hown, hbw⟩
theorem spotsRing (f : Sp → Bool)  (ps : List Sp) (v : Value) (w : World) (hv : Reads w w.heap.size v ps) (hl : ps.length ≤ 100000)
    (hf : ∀ (x y : Int) (w1 : World), (x, y) ∈ ps → Below w.heap.size w w1 → Calls Try.prog 99 #[.agg #[.int .i64 x, .int .i64 y]] w1 (Gives (.bool (f (x, y))) w1)) :
    Calls Try.prog 47 #[v, .func (.func 99) #[] #[]] w fun e w' => ∃ v', e = .returned v' ∧ Owns w' w.heap.size v' (ps.filter f) ∧ Below w.heap.size w w' := by
  have b0 := box_below w #[.func (.func 99) #[] #[]] 62
  obtain ⟨W, hW⟩ : ∃ W, W = w.alloc (.cells #[.func (.func 99) #[] #[]] 62) := ⟨_, rfl⟩
  have q0 : W.cell? ⟨w.heap.size, 0, none⟩ = some (.func (.func 99) #[] #[]) := by rw [hW]; simp [go_sem]
  have s0 : w.heap.size < W.heap.size := by rw [hW]; simp
  rw [← hW] at b0
  have hcl := spotsRing.fold f  w.heap.size ps v W (hv.kept b0) s0 q0 hl (fun x y w1 hm hb => hf x y w1 hm (below_step b0 hb))
  obtain ⟨A, c, rfl, hc, hm⟩ := hv.slice
  clear hf
  go_enter Try.func47, Try.ntmps47
  go_wp2_with (first | (rw [← hW]; clear hW) | fail)
  refine hcl.mono ?_
  rintro e w1 ⟨v1, rfl, o1, b1⟩
  go_wp2
  go_ret
  exact ⟨_, rfl, o1.base b0.size, below_step b0 b1⟩
end Go.Proofs.Ytfofmfkdkihhbac
