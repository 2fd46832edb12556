/- What is reached, in the program: Clone, visitedOf, reachedIn, ReachedOf. No conditions but those typed. -/
import Derived.Test.YtbbeinhjkfjipaaMarkS
import Derived.Test.YtbbeinhjkfjipaaNeigh
import Derived.Test.YtbbeinhjkfjipaaUnion
import Derived.Test.YtbbeinhjkfjipaaParts
import Derived.Lib.SliceRun
namespace Go.Proofs.Ytbbeinhjkfjipaa
open Go.RowKit Go.Sort

set_option maxRecDepth 100000 in
theorem clone_any (ps : List Sp) (v : Value) (w : World) (h : Reads w w.heap.size v ps) (hl : ps.length ≤ 1000000) :
    Calls Try.prog 93 #[v] w (GivesOwn ps w) := by
  obtain ⟨A, c, rfl, hc, hm, hA, _⟩ := h.is
  unfold maxLen at hm
  have hnil : ∀ W, (binOp .eql 23 (.slice A ps.length c) (.slice none 0 0)).run Try.prog W = .ok (.bool A.isNone) W := fun W => Lib.run_eql_slice_nil W _ _ _ _ _ 0 0 Try.underlying23
  cases A with
  | none =>
    have hnil : ∀ W, (binOp .eql 23 (.slice none ps.length c) (.slice none 0 0)).run Try.prog W = .ok (.bool true) W := hnil
    have h0 : ps.length = 0 := by have := hA rfl; omega
    obtain rfl := List.eq_nil_of_length_eq_zero h0
    have hc0 : c = 0 := hA rfl
    subst hc0
    have hnil : ∀ W, (binOp .eql 23 (.slice none 0 0) (.slice none 0 0)).run Try.prog W = .ok (.bool true) W := hnil
    go_enter Try.func93, Try.ntmps93
    go_wp2
    go_ret
    exact ⟨_, rfl, Owns.nil _ _, Below.refl _ _⟩
  | some ad =>
    have hnil : ∀ W, (binOp .eql 23 (.slice (some ad) ps.length c) (.slice none 0 0)).run Try.prog W = .ok (.bool false) W := hnil
    have b0 : Below w.heap.size w (w.alloc (.cells #[] 54)) := box_below _ _ _
    have oE := Owns.empty w w.heap.size (Nat.le_refl _)
    go_enter Try.func93, Try.ntmps93
    go_wp2_with (at_builtin; refine wpList_append_spots (qs := ps) oE (h.kept b0) (by simp only [List.length_nil]; omega) b0.size rfl (.tmp 5) (.tmp 6) rfl rfl rfl ?_)
    intro v4 w4 o4 g4 hv4
    have b4 := oE.below_app b0 b0.size g4
    go_wp2
    go_ret
    exact ⟨_, rfl, by simpa using o4, b4⟩
set_option maxRecDepth 100000 in
set_option maxHeartbeats 800000 in
theorem visitedOf_any (f : Sp → Bool) (ps : List Sp) (vis : List Bool) (v : Value) (g n cap base : Nat) (w : World) (h : Reads w w.heap.size v ps) (hl : ps.length ≤ 10000) (hv : VOwns 4 w base (.slice (some ⟨g, 0, none⟩) n cap) (boolsV vis)) (hs : Says ps vis f) :
    Calls Try.prog 94 #[v, .slice (some ⟨g, 0, none⟩) n cap] w (GivesOwn (ps.filter f) w) := by
  obtain ⟨A, c, rfl, hc, hm, hA, hr⟩ := h.is
  unfold maxLen at hm
  have hgw := (hv.lt g rfl).2
  have hn := hv.len
  rw [boolsV_length] at hn
  have hcap : n ≤ cap ∧ cap ≤ maxLen := by
    obtain ⟨A, c, h1, h2, h3, _⟩ := hv.shape
    cases h1
    exact ⟨by rw [boolsV_length] at h2; omega, h3⟩
  unfold maxLen at hcap
  have HS := Lib.hid hs
  have hn1 : n ≤ ps.length := by have := hs.1; omega
  have hn2 : ps.length ≤ n := by have := hs.1; omega
  have HN := Lib.hid hn
  clear hs hn
  go_enter Try.func94, Try.ntmps94
  go_wp2
  go_loopw [5, 10] (fun o i wr => ∃ k : Nat, k ≤ ps.length ∧ i = .int .i64 k ∧ Owns wr w.heap.size o ((ps.take k).filter f) ∧ Below w.heap.size w wr) (fun _ i _ => ps.length - (intOf i).toNat)
  case atStart => exact ⟨0, Nat.zero_le _, rfl, Owns.nil _ _, Below.refl _ _⟩
  case round =>
    obtain ⟨k, hk, rfl, hown, hbw⟩ := hrel
    by_cases hlk : k < ps.length
    · obtain ⟨⟨x, y⟩, hxy⟩ : ∃ a, ps[k]? = some a := ⟨_, List.getElem?_eq_getElem hlk⟩
      obtain ⟨b, off, rfl, hb, hcell⟩ := hr (by omega)
      obtain ⟨c0, c1⟩ := hcell k x y hxy
      have d0 := (hbw.cell (p := ⟨b, off + k * 2, none⟩) hb).trans c0
      have d1 := (hbw.cell (p := ⟨b, off + k * 2 + 1, none⟩) hb).trans c1
      have e0 := (hv.cell (k := k) (by rw [boolsV_length, ← HN.out]; omega)).trans (boolsV_at (HS.out.2 k _ hxy))
      have bal := box_below wr #[.int .i64 x, .int .i64 y] 54
      have hcz := (below_step hbw bal).cell (p := ⟨g, k, none⟩) hgw
      rw [e0] at hcz
      have q0 : (wr.alloc (.cells #[.int .i64 x, .int .i64 y] 54)).cell? ⟨wr.heap.size, 0, none⟩ = some (.int .i64 x) := by simp [go_sem]
      have q1 : (wr.alloc (.cells #[.int .i64 x, .int .i64 y] 54)).cell? ⟨wr.heap.size, 1, none⟩ = some (.int .i64 y) := by simp [go_sem]
      have hm3 : (0 : Int) ≤ (k : Int) := Int.natCast_nonneg _
      have hm4 : (k : Int) < (ps.length : Int) := by omega
      have hm5 : (k : Int) < (n : Int) := by omega
      have hlen := filt_len ps f k
      have o2 := hown.below bal
      have b2 := below_step hbw bal
      rcases hf : f (x, y) with _ | _
      · rw [hf] at hcz
        have HT := Lib.hid (filt_no hxy hf)
        clear c0 c1 hxy hf e0
        go_wp2
        go_roundw
        case rel => exact ⟨k + 1, by omega, by go_num, by rw [← HT.out]; exact o2, b2⟩
        case measure => simp [intOf]; omega
      · rw [hf] at hcz
        have HT := Lib.hid (filt_yes hxy hf)
        clear c0 c1 hxy hf e0
        have bal3 := box_below (wr.alloc (.cells #[.int .i64 x, .int .i64 y] 54)) #[.int .i64 x, .int .i64 y] 54
        have o3 := o2.below bal3
        have b3 := below_step b2 bal3
        have hs3 := b3.size
        go_wp2_with (at_builtin; refine wpList_append_spots (qs := [(x, y)]) o3 (Reads.one (g := wr.heap.size + 1) (by simp [go_sem]) (by simp [go_sem])) (by simp only [List.length_cons, List.length_nil]; omega) hs3 rfl (.tmp 19) (.tmp 21) rfl rfl rfl ?_)
        intro v4 w4 o4 g4 hv4
        have b4 := o3.below_app b3 hs3 g4
        go_wp2
        go_roundw
        case rel => exact ⟨k + 1, by omega, by go_num, by rw [← HT.out]; exact o4, b4⟩
        case measure => simp [intOf]; omega
    · obtain rfl : k = ps.length := by omega
      rw [List.take_length] at hown
      go_wp2
      go_ret
      exact ⟨_, rfl, hown, hbw⟩
theorem ring_near (e : Bool) (c b : Sp) : b ∈ (ringE e).map (addS c) ↔ nearB e c b = true := by
  obtain ⟨u, v⟩ := b
  obtain ⟨x, y⟩ := c
  cases e
  · rw [near4_iff, ringE_4]
    unfold ring4
    simp only [List.map_cons, List.map_nil, addS, List.mem_cons, List.not_mem_nil, or_false, Prod.mk.injEq]
    omega
  · rw [near8_iff]
    unfold ringE ring8
    simp only [List.map_cons, List.map_nil, addS, List.mem_cons, List.not_mem_nil, or_false, Prod.mk.injEq, ne_eq]
    omega
theorem ring_length (e : Bool) : (ringE e).length ≤ 8 := by cases e <;> decide
theorem ring_small (e : Bool) : ∀ d ∈ ringE e, Near d := by
  intro d hd
  have : ∀ d ∈ ringE e, -1 ≤ d.1 ∧ d.1 ≤ 1 ∧ -1 ≤ d.2 ∧ d.2 ≤ 1 := by cases e <;> decide
  have := this d hd
  unfold Near; omega
theorem Owns.take {w : World} {base g n cap k : Nat} {ps : List Sp} (h : Owns w base (.slice (some ⟨g, 0, none⟩) n cap) ps) (hk : k ≤ ps.length) : Owns w base (.slice (some ⟨g, 0, none⟩) k cap) (ps.take k) := by
  have hn := h.len
  subst hn
  have e : (ps.take k).length = k := by rw [List.length_take]; omega
  unfold Owns
  rw [e]
  refine ⟨by rw [flat_length, e], ?_⟩
  rcases h.2 with ⟨h0, _⟩ | ⟨g', cap', cur, h0, h1, hg, h2, h3, h4, h5⟩
  · cases h0
  · injection h0 with e1 e2 e3
    injection e1 with e1
    injection e1 with e1
    subst e1 e3
    refine .inr ⟨g, cap, cur, rfl, h1, hg, by omega, h3, h4, ?_⟩
    rw [flat_take, ← h5, List.take_take, Nat.min_eq_left (Nat.mul_le_mul_right 2 hk)]
theorem Owns.shape {w : World} {base : Nat} {v : Value} {ps : List Sp} (h : Owns w base v ps) (h0 : 0 < ps.length) : ∃ g c, v = .slice (some ⟨g, 0, none⟩) ps.length c ∧ ps.length ≤ c ∧ c ≤ maxLen := by
  rcases h.2 with ⟨_, hn⟩ | ⟨g, cap, cur, hv, _, hg, h2, h3, _⟩
  · omega
  · exact ⟨g, cap, hv, h2, h3⟩
/-- the spots on the stack, one after the other -/
def pushed (st : List Sp) (e : Bool) (c : Sp) (m : Nat) : List Sp := st ++ ((ringE e).take m).map (addS c)
theorem pushed_zero (st : List Sp) (e : Bool) (c : Sp) : pushed st e c 0 = st := by unfold pushed; rw [List.take_zero, List.map_nil, List.append_nil]
theorem pushed_succ {st : List Sp} {e : Bool} {c d : Sp} {m : Nat} (h : (ringE e)[m]? = some d) : pushed st e c m ++ [addS c d] = pushed st e c (m + 1) := by
  unfold pushed
  rw [List.take_add_one, h, List.map_append, List.append_assoc]; rfl
theorem pushed_all (st : List Sp) (e : Bool) (c : Sp) : pushed st e c (ringE e).length = st ++ (ringE e).map (addS c) := by unfold pushed; rw [List.take_length]
theorem pushed_length (st : List Sp) (e : Bool) (c : Sp) (m : Nat) : (pushed st e c m).length ≤ st.length + 8 := by
  unfold pushed
  rw [List.length_append, List.length_map, List.length_take]
  have := ring_length e
  omega
theorem near_of_S {a : Sp} (h : NearS a) : Near a := by unfold NearS at h; unfold Near; omega
set_option maxRecDepth 100000 in
set_option maxHeartbeats 3200000 in
theorem reachedIn_any (e : Bool) (ps ms : List Sp) (v u s : Value) (w : World) (h : Reads w w.heap.size v ps) (k : Reads w w.heap.size u ms) (hst : Reads w w.heap.size s (ringE e)) (hs : Sorted ps) (hl : ps.length ≤ 10000) (hlm : ms.length ≤ 10000) (hn : ∀ a ∈ ps, NearS a) :
    Calls Try.prog 65 #[v, u, s] w (GivesOwn (reachL e ps ms) w) := by
  rw [reachL_is]
  obtain ⟨A, c, rfl, hc, hm, hA, hr⟩ := h.is
  obtain ⟨A', c', rfl, hc', hm'⟩ := k.slice
  obtain ⟨A2, c2, rfl, hc2, hm2, _, hr2⟩ := hst.is
  unfold maxLen at hm hm' hm2
  have hrl := ring_length e
  go_enter Try.func65, Try.ntmps65
  go_wp2_with (at_make; refine wpList_make_Bool ps.length (by omega) rfl _ _ rfl _ _ rfl rfl rfl rfl ?_; intro w1 ho1 hg1)
  have hb1 : Below w.heap.size w w1 := (Below.refl _ _).grown hg1 (Nat.le_refl _) (by simp)
  rw [boolsV_replicate] at ho1
  clear hg1
  go_wp2_with fail
  refine (clone_any ms _ w1 (k.kept hb1) (by omega)).mono ?_
  rintro e' w2 ⟨v2, rfl, o2, b2⟩
  have ho2 := ho1.below b2
  have hb2 := below_step hb1 b2
  have o2 := o2.base hb1.size
  have hI0 := VisI.begin e ps ms
  have hf0 : falses (List.replicate ps.length false) ≤ 10000 := by
    have := List.count_le_length (a := false) (l := List.replicate ps.length false)
    rw [List.length_replicate] at this
    unfold falses; omega
  clear ho1 hb1 b2
  go_wp2
  go_loopg [8] (falses (List.replicate ps.length false) * 9 + ms.length) (fun gk t wr => ∃ (vis : List Bool) (st : List Sp), falses vis * 9 + st.length ≤ gk ∧ gk ≤ 200000 ∧ VisI e ps ms vis st ∧ VOwns 4 wr w.heap.size (.slice (some ⟨w.heap.size, 0, none⟩) ps.length ps.length) (boolsV vis) ∧ Owns wr w.heap.size t st ∧ Below w.heap.size w wr)
  case atStart => exact ⟨_, ms, Nat.le_refl _, by omega, hI0, ho2, o2, hb2⟩
  case round =>
    clear hI0 hf0 ho2 o2 hb2
    obtain ⟨vis, st, hgk, hgl, hI, hvo, hso, hbw⟩ := hrel
    have hwb : w.heap.size < wr.heap.size := (hvo.lt _ rfl).2
    by_cases h0 : st.length = 0
    · obtain rfl := List.eq_nil_of_length_eq_zero h0
      obtain ⟨At, ct, rfl, _, _⟩ := hso.reads.slice
      have HD := Lib.hid hI.done
      clear hI
      go_wp2_with fail
      refine (visitedOf_any (reachB e ps ms) ps vis _ w.heap.size ps.length ps.length w.heap.size wr (h.kept hbw) hl hvo HD.out).mono ?_
      rintro e' w3 ⟨v3, rfl, o3, b3⟩
      go_wp2
      go_ret
      exact ⟨_, rfl, o3.base hbw.size, below_step hbw b3⟩
    · obtain ⟨st, a, rfl⟩ : ∃ l a, st = l ++ [a] := ⟨st.dropLast, st.getLast (fun h => h0 (by rw [h]; rfl)), (List.dropLast_concat_getLast _).symm⟩
      obtain ⟨x, y⟩ := a
      obtain ⟨gt, ct, hv, hct1, hct2⟩ := hso.shape (by rw [List.length_append, List.length_singleton]; omega)
      subst hv
      unfold maxLen at hct2
      rw [List.length_append, List.length_singleton] at *
      obtain ⟨x', y', hxy, q0, q1⟩ := hso.there (k := st.length) (by rw [List.length_append, List.length_singleton]; omega)
      rw [List.getElem?_append_right (Nat.le_refl _), Nat.sub_self] at hxy
      cases hxy
      have hsm : st.length ≤ 200000 := by omega
      have hs1 := hso.take (k := st.length) (by rw [List.length_append, List.length_singleton]; omega)
      rw [List.take_left] at hs1
      have bal := box_below wr #[.int .i64 x, .int .i64 y] 54
      have hs2 := hs1.below bal
      have hv2 := hvo.below bal
      have hb2 := below_step hbw bal
      have d0 : (wr.alloc (.cells #[.int .i64 x, .int .i64 y] 54)).cell? ⟨wr.heap.size, 0, none⟩ = some (.int .i64 x) := by simp [go_sem]
      have d1 : (wr.alloc (.cells #[.int .i64 x, .int .i64 y] 54)).cell? ⟨wr.heap.size, 1, none⟩ = some (.int .i64 y) := by simp [go_sem]
      have row0 : (wr.alloc (.cells #[.int .i64 x, .int .i64 y] 54)).heap[wr.heap.size]? = some (.cells #[.int .i64 x, .int .i64 y] 54 (0, 0)) := heap_alloc_new wr _
      have hgt := (hso.lt gt rfl).2
      have hfi := indexIn_any ps (.slice A ps.length c) x y (wr.alloc (.cells #[.int .i64 x, .int .i64 y] 54)) (h.kept hb2) hs (by omega)
      clear hso hvo hs1 h0
      go_wp2_with fail
      refine hfi.mono ?_
      rintro e' w3 ⟨⟨i, rfl, hi⟩, b3⟩
      have hs3 := hs2.below b3
      have hv3 := hv2.below b3
      have hb3 := below_step hb2 b3
      have row3 := (b3.block wr.heap.size (by simp)).trans row0
      have hsz3 := b3.size
      rw [World.size_alloc] at hsz3
      clear hs2 hv2 row0 d0 d1 bal
      by_cases hin : (x, y) ∈ ps
      · obtain ⟨j, rfl, hj⟩ := hi hin
        rw [decide_eq_true hin]
        have hjl := (List.getElem?_eq_some_iff.1 hj).1
        obtain ⟨z, hz⟩ : ∃ z, vis[j]? = some z := ⟨_, List.getElem?_eq_getElem (by rw [hI.len]; exact hjl)⟩
        have hcz := (hv3.cell (k := j) (by rw [boolsV_length, hI.len]; exact hjl)).trans (boolsV_at hz)
        have hj0 : (0 : Int) ≤ (j : Int) := Int.natCast_nonneg _
        have hj1 : (j : Int) < (ps.length : Int) := by omega
        have HX := Lib.hid (And.intro hj hz)
        have HI := Lib.hid hI
        clear hin hj hz hI hi
        cases z
        · have hfz := hv3.free j
          have hI4 := HI.out.new (l := (ringE e).map (addS (x, y))) HX.out.1 (ring_near e (x, y)) hs
          have HI4 := Lib.hid hI4
          have hv4 := hv3.set j (.bool true)
          rw [boolsV_set] at hv4
          have hfl := falses_set HX.out.2
          have hgs := setGrown w3 w.heap.size j (.bool true)
          have hs4 := hs3.grown hgs (by
            rcases hv3.apartO (by decide) hs3 with e1 | e1
            · exact .inl e1
            · exact .inr e1)
          have row4 := (hgs.block wr.heap.size (by omega) (fun e1 => by injection e1 with e1; omega)).trans row3
          have hb4 := hb3.grown hgs hb3.size (fun k hk => by cases hk; exact Nat.le_refl _)
          have hne4 : (Value.slice (some ⟨gt, 0, none⟩) st.length ct).ownBlock ≠ some wr.heap.size := fun e1 => by have e2 : gt = wr.heap.size := Option.some.inj e1; omega
          have hnear := near_of_S (hn _ (List.mem_of_getElem? HX.out.1))
          have hpz := pushed_zero st e (x, y)
          have HFL := Lib.hid hfl
          clear hfl hI4 hs3 hv3 row3 hb3 b3 hgs HI
          go_wp2
          generalize wr.heap.size = Q at row4 hne4 ⊢
          go_loopw [8, 52] (fun t i wr' => ∃ m : Nat, m ≤ (ringE e).length ∧ i = .int .i64 m ∧ Owns wr' w.heap.size t (pushed st e (x, y) m) ∧ VOwns 4 wr' w.heap.size (.slice (some ⟨w.heap.size, 0, none⟩) ps.length ps.length) (boolsV (vis.set j true)) ∧ Below w.heap.size w wr' ∧ wr'.heap[Q]? = some (.cells #[.int .i64 x, .int .i64 y] 54 (0, 0)) ∧ t.ownBlock ≠ some Q) (fun _ i _ => (ringE e).length - (intOf i).toNat)
          case atStart => exact ⟨0, Nat.zero_le _, rfl, by rw [hpz]; exact hs4, hv4, hb4, row4, hne4⟩
          case round =>
            clear hs4 hv4 hb4 row4 hne4 hbw hwb hcz hfz hsz3 hgt
            obtain ⟨m, hm', rfl, hso, hvo, hbw, row, hne⟩ := hrel
            by_cases hlm : m < (ringE e).length
            · obtain ⟨⟨dx, dy⟩, hd⟩ : ∃ a, (ringE e)[m]? = some a := ⟨_, List.getElem?_eq_getElem hlm⟩
              obtain ⟨b2, off2, rfl, hb2, hcell2⟩ := hr2 (by omega)
              obtain ⟨c0, c1⟩ := hcell2 m dx dy hd
              have d0 := (hbw.cell (p := ⟨b2, off2 + m * 2, none⟩) hb2).trans c0
              have d1 := (hbw.cell (p := ⟨b2, off2 + m * 2 + 1, none⟩) hb2).trans c1
              have hdn := ring_small e _ (List.mem_of_getElem? hd)
              have hlen := pushed_length st e (x, y) m
              have HT := Lib.hid (pushed_succ (st := st) (c := (x, y)) hd)
              have bal := box_below wr #[.int .i64 dx, .int .i64 dy] 54
              have hQ := (Array.getElem?_eq_some_iff.1 row).1
              have row1 := (bal.block Q hQ).trans row
              have a0 := cell_of_row _ _ 0 _ _ _ row1
              have a1 := cell_of_row _ _ 1 _ _ _ row1
              simp only [List.getElem?_toArray, List.getElem?_cons_zero, List.getElem?_cons_succ] at a0 a1
              have hm3 : (0 : Int) ≤ (m : Int) := Int.natCast_nonneg _
              have hm4 : (m : Int) < ((ringE e).length : Int) := by omega
              have o1 := hso.below bal
              have v1 := hvo.below bal
              have w1 := below_step hbw bal
              clear c0 c1 hd
              go_wp2_with fail
              refine (added_in x y dx dy _ hnear hdn).mono ?_
              rintro e' w5 ⟨rfl, b5⟩
              have o5 := o1.below b5
              have v5 := v1.below b5
              have h5 := below_step w1 b5
              have hQ1 : Q < (wr.alloc (.cells #[.int .i64 dx, .int .i64 dy] 54)).heap.size := Nat.lt_of_lt_of_le hQ bal.size
              have row5 := (b5.block Q hQ1).trans row1
              have hQ5 := Nat.lt_of_lt_of_le hQ1 b5.size
              have bal6 := box_below w5 #[.int .i64 (x + dx), .int .i64 (y + dy)] 54
              have o6 := o5.below bal6
              have v6 := v5.below bal6
              have h6 := below_step h5 bal6
              have row6 := (bal6.block Q hQ5).trans row5
              have hQ6 := Nat.lt_of_lt_of_le hQ5 bal6.size
              have hs6 := h6.size
              clear o1 v1 w1 row1 a0 a1 b5 row5
              go_wp2_with (at_builtin; refine wpList_append_spots (qs := [(x + dx, y + dy)]) o6 (Reads.one (g := w5.heap.size) (by simp [go_sem]) (by simp [go_sem])) (by simp only [List.length_cons, List.length_nil]; omega) hs6 rfl (.tmp 56) (.tmp 60) rfl rfl rfl ?_)
              intro v7 w7 o7 g7 hv7
              have v7' := v6.grown g7 (by
                rcases v6.apartV (by decide) o6 with e1 | e1
                · exact .inl e1
                · exact .inr e1)
              have h7 := h6.grown g7 hs6 (fun k hk => (o6.lt k hk).1)
              have row7 := (g7.block Q hQ6 (fun e1 => hne e1.symm)).trans row6
              have hne7 : v7.ownBlock ≠ some Q := by
                rcases hv7 with e1 | e1
                · rw [e1]; exact hne
                · rw [e1]; intro e2; injection e2 with e2; omega
              go_wp2
              go_roundw
              case rel => exact ⟨m + 1, by omega, by go_num, by rw [← HT.out]; exact o7, v7', h7, row7, hne7⟩
              case measure => simp [intOf]; omega
            · obtain rfl : m = (ringE e).length := by omega
              rw [pushed_all] at hso
              have hll : (st ++ (ringE e).map (addS (x, y))).length ≤ st.length + 8 := by rw [List.length_append, List.length_map]; omega
              have h9 : falses (vis.set j true) * 9 + (st ++ (ringE e).map (addS (x, y))).length < gk := by have := HFL.out; omega
              have H9 := Lib.hid h9
              clear h9 hll
              go_wp2
              go_roundg (falses (vis.set j true) * 9 + (st ++ (ringE e).map (addS (x, y))).length)
              case measure => exact H9.out
              case rel => exact ⟨_, _, Nat.le_refl _, by have := H9.out; omega, HI4.out, hvo, hso, hbw⟩
        · have HI4 := Lib.hid (HI.out.drop (fun j' hj' => by obtain rfl := idx_unique hs hj' HX.out.1; exact HX.out.2))
          go_wp2
          go_roundg (falses vis * 9 + st.length)
          case measure => omega
          case rel => exact ⟨vis, st, Nat.le_refl _, by omega, HI4.out, hv3, hs3, hb3⟩
      · rw [decide_eq_false hin]
        have HI4 := Lib.hid (hI.drop (fun j' hj' => absurd (List.mem_of_getElem? hj') hin))
        clear hin hI hi
        go_wp2
        go_roundg (falses vis * 9 + st.length)
        case measure => omega
        case rel => exact ⟨vis, st, Nat.le_refl _, by omega, HI4.out, hv3, hs3, hb3⟩
end Go.Proofs.Ytbbeinhjkfjipaa
