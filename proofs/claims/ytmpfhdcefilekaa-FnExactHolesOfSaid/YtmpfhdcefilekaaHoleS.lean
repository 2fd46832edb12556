/- Texts of one kind, merged: HoleW, HoleS. No conditions but those that stand in each theorem. -/
import Derived.Test.YtmpfhdcefilekaaPieceS
import Derived.Test.YtmpfhdcefilekaaReach
import Derived.Test.YtmpfhdcefilekaaBoxS
namespace Go.Proofs.Ytmpfhdcefilekaa
/-! ### HoleW -/
section
open Go.RowKit Go.Sort

theorem Owns.keepB {w w' : World} {base B : Nat} {v : Value} {ps : List Sp} (h : Owns w base v ps) (hlt : ∀ g, v.ownBlock = some g → g < B) (hb : Below B w w') : Owns w' base v ps := by
  refine ⟨h.1, ?_⟩
  rcases h.2 with h0 | ⟨g, cap, cur, rfl, h1, hg, h2⟩
  · exact .inl h0
  · exact .inr ⟨g, cap, cur, rfl, h1, (hb.block g (hlt g rfl)).trans hg, h2⟩
theorem VOwns.keepB {T : TypeId} {w w' : World} {base B : Nat} {v : Value} {l : List Value} (h : VOwns T w base v l) (hlt : ∀ g, v.ownBlock = some g → g < B) (hb : Below B w w') : VOwns T w' base v l := by
  refine ⟨h.1, ?_⟩
  rcases h.2 with h0 | ⟨g, cap, cur, rfl, h1, hg, h2⟩
  · exact .inl h0
  · exact .inr ⟨g, cap, cur, rfl, h1, (hb.block g (hlt g rfl)).trans hg, h2⟩
theorem Inner.keepB {w w' : World} {base B : Nat} {vs : List Value} {ls : List (List Sp)} (h : Inner w base vs ls) (hlt : ∀ (k : Nat) u, vs[k]? = some u → ∀ g, u.ownBlock = some g → g < B) (hb : Below B w w') : Inner w' base vs ls :=
  ⟨h.len, fun k p hk => by obtain ⟨u, h1, h2⟩ := h.own k p hk; exact ⟨u, h1, h2.keepB (hlt k u h1) hb⟩, h.ne⟩
theorem VOwns.apart2 {T T' : TypeId} (hT : T ≠ T') {w : World} {base base' : Nat} {v u : Value} {l m : List Value} (h : VOwns T w base v l) (k : VOwns T' w base' u m) : v.ownBlock = none ∨ v.ownBlock ≠ u.ownBlock := by
  rcases h.2 with ⟨rfl, _⟩ | ⟨g, cap, cur, rfl, _, hg, _⟩
  · exact .inl rfl
  · right
    rcases k.2 with ⟨rfl, _⟩ | ⟨g', cap', cur', rfl, _, hg', _⟩
    · intro e; cases e
    · intro e
      injection e with e
      subst e
      rw [hg] at hg'
      injection hg' with hg'
      injection hg' with _ e2
      exact hT e2
theorem VOwns.notRow {T T' : TypeId} (hT : T ≠ T') {w : World} {base L : Nat} {v : Value} {l : List Value} {cs : Array Value} (h : VOwns T w base v l) (hr : w.heap[L]? = some (.cells cs T' (0, 0))) : some L ≠ v.ownBlock := by
  rcases h.2 with ⟨rfl, _⟩ | ⟨g, cap, cur, rfl, _, hg, _⟩
  · intro e; cases e
  · intro e
    have e : L = g := Option.some.inj e
    subst e
    rw [hr] at hg
    injection hg with hg
    injection hg with _ e2
    exact hT e2.symm
theorem Owns.shape2 {w : World} {base : Nat} {v : Value} {ps : List Sp} (h : Owns w base v ps) (h0 : 0 < ps.length) : ∃ g c, v = .slice (some ⟨g, 0, none⟩) ps.length c ∧ ps.length ≤ c ∧ c ≤ maxLen := by
  rcases h.2 with ⟨_, hn⟩ | ⟨g, cap, cur, hv, _, hg, h2, h3, _⟩
  · omega
  · exact ⟨g, cap, hv, h2, h3⟩
structure HolW (w wr : World) (L G D n : Nat) (lx ly gx gy : Int) (rv ov : Value) (R : List Sp) (vs : List Value) (ls : List (List Sp)) (dn : List Bool) : Prop where
  rowL : wr.heap[L]? = some (.cells #[.int .i64 lx, .int .i64 ly] 42 (0, 0))
  rowG : wr.heap[G]? = some (.cells #[.int .i64 gx, .int .i64 gy] 42 (0, 0))
  rest : Owns wr w.heap.size rv R
  done : VOwns 4 wr w.heap.size (.slice (some ⟨D, 0, none⟩) n n) (boolsV dn)
  out : VOwns 23 wr w.heap.size ov vs
  inn : Inner wr w.heap.size vs ls
  below : Below w.heap.size w wr
/-- all of it lies below block B -/
structure HolB (B L G D : Nat) (rv ov : Value) (vs : List Value) : Prop where
  l : L < B
  g : G < B
  d : D < B
  r : ∀ g, rv.ownBlock = some g → g < B
  o : ∀ g, ov.ownBlock = some g → g < B
  i : ∀ (k : Nat) u, vs[k]? = some u → ∀ g, u.ownBlock = some g → g < B
section
variable {w wr w' : World} {L G D n : Nat} {lx ly gx gy : Int} {rv ov : Value} {R : List Sp} {vs : List Value} {ls : List (List Sp)} {dn : List Bool}
theorem HolW.bounds (H : HolW w wr L G D n lx ly gx gy rv ov R vs ls dn) : HolB wr.heap.size L G D rv ov vs :=
  ⟨(Array.getElem?_eq_some_iff.1 H.rowL).1, (Array.getElem?_eq_some_iff.1 H.rowG).1, (H.done.lt D rfl).2, fun g hg => (H.rest.lt g hg).2, fun g hg => (H.out.lt g hg).2, fun _ _ hu g hg => (H.inn.lt hu g hg).2⟩
theorem HolW.keepB {B : Nat} (H : HolW w wr L G D n lx ly gx gy rv ov R vs ls dn) (hB : HolB B L G D rv ov vs) (hb : Below B wr w') (hw : w.heap.size ≤ B) : HolW w w' L G D n lx ly gx gy rv ov R vs ls dn :=
  ⟨(hb.block L hB.l).trans H.rowL, (hb.block G hB.g).trans H.rowG, H.rest.keepB hB.r hb, H.done.keepB (fun g hg => by have e : D = g := Option.some.inj hg; rw [← e]; exact hB.d) hb, H.out.keepB hB.o hb, H.inn.keepB hB.i hb, H.below.trans (hb.mono hw)⟩
theorem HolW.next (H : HolW w wr L G D n lx ly gx gy rv ov R vs ls dn) (hb : Below wr.heap.size wr w') : HolW w w' L G D n lx ly gx gy rv ov R vs ls dn := H.keepB H.bounds hb H.below.size
theorem HolW.setDone (H : HolW w wr L G D n lx ly gx gy rv ov R vs ls dn) (j : Nat) : HolW w (wr.setCell ⟨D, j, none⟩ (.bool true)) L G D n lx ly gx gy rv ov R vs ls (dn.set j true) := by
  have hg := setGrown wr D j (.bool true)
  have hd := H.done.set j (.bool true)
  rw [boolsV_set] at hd
  have hw := (H.done.lt D rfl).1
  refine ⟨(hg.block L H.bounds.l (H.done.notRow (by decide) H.rowL)).trans H.rowL, (hg.block G H.bounds.g (H.done.notRow (by decide) H.rowG)).trans H.rowG, H.rest.grown hg (H.done.apartO (by decide) H.rest), hd, H.out.grown hg (H.out.apart2 (by decide) H.done), ?_, H.below.grown hg H.below.size (fun k hk => by cases hk; exact hw)⟩
  exact ⟨H.inn.len, fun k p hk => by obtain ⟨u, h1, h2⟩ := H.inn.own k p hk; exact ⟨u, h1, h2.grown hg (H.done.apartO (by decide) h2)⟩, H.inn.ne⟩
/-- a further hole behind the others -/
theorem HolW.push (H : HolW w wr L G D n lx ly gx gy rv ov R vs ls dn) {ov' u : Value} {p : List Sp} {B : Nat} (hB : HolB B L G D rv ov vs) (hu : Owns wr B u p) (hw : w.heap.size ≤ B) (hv' : VOwns 23 w' w.heap.size ov' (vs ++ [u])) (hg : wr.grownBy w' ov.ownBlock) : HolW w w' L G D n lx ly gx gy rv ov' R (vs ++ [u]) (ls ++ [p]) dn := by
  refine ⟨(hg.block L H.bounds.l (H.out.notRow (by decide) H.rowL)).trans H.rowL, (hg.block G H.bounds.g (H.out.notRow (by decide) H.rowG)).trans H.rowG, H.rest.grown hg (H.out.apartO parts_apart H.rest), H.done.grown hg (H.done.apart2 (by decide) H.out), hv', ?_, H.below.grown hg H.below.size (fun k hk => (H.out.lt k hk).1)⟩
  have hI := H.inn
  refine ⟨by rw [List.length_append, List.length_append, hI.len]; rfl, fun k q hk => ?_, fun i j a b hij ha hb => ?_⟩
  · by_cases hl : k < ls.length
    · rw [List.getElem?_append_left hl] at hk
      obtain ⟨a, h1, h2⟩ := hI.own k q hk
      exact ⟨a, by rw [List.getElem?_append_left (by rw [hI.len]; exact hl)]; exact h1, h2.grown hg (H.out.apartO parts_apart h2)⟩
    · rw [List.getElem?_append_right (by omega)] at hk
      have e : k - ls.length = 0 := by
        have := (List.getElem?_eq_some_iff.1 hk).1
        simp only [List.length_singleton] at this; omega
      rw [e] at hk
      cases hk
      exact ⟨u, by rw [List.getElem?_append_right (by rw [hI.len]; omega), hI.len, e]; rfl, (hu.base hw).grown hg (H.out.apartO parts_apart hu)⟩
  · have hj := (List.getElem?_eq_some_iff.1 hb).1
    rw [List.length_append, List.length_singleton] at hj
    rw [List.getElem?_append_left (by omega)] at ha
    by_cases hl : j < vs.length
    · rw [List.getElem?_append_left hl] at hb
      exact hI.ne i j a b hij ha hb
    · have e : j = vs.length := by omega
      subst e
      rw [List.getElem?_append_right (Nat.le_refl _), Nat.sub_self] at hb
      cases hb
      cases hx : a.ownBlock with
      | none => exact .inl rfl
      | some g => exact .inr fun e => by have h1 := hB.i i a ha g hx; have h2 := (hu.lt g e.symm).1; omega
end
end
/-! ### HoleS -/
section
open Go.RowKit Go.Sort

theorem holesR_nobox {p : List Sp} (h : boxOk p = false) : holesR p = [] := by
  unfold holesR
  split
  · rename_i hp
    unfold boxOk at h
    rw [hp, Bool.true_and, decide_eq_false_iff_not, Decidable.not_not] at h
    rw [h, holesL_nil]
  · rfl
/-- what a picture with a box has, for the model's walk -/
structure BoxedP (p : List Sp) (lx ly gx gy : Int) : Prop where
  rest : restL p = betw (fun a => !decide (a ∈ p)) (lx, ly) (gx, gy)
  box : boxL p = ((lx, ly), (gx, gy))
  holes : holesR p = holesL p
  sort : Sorted p
  len : p.length ≤ 60
  b1 : -30 ≤ lx ∧ gx ≤ 30
  b2 : -30 ≤ ly ∧ gy ≤ 30
  b3 : lx ≤ gx ∧ ly ≤ gy
  near : ∀ a ∈ restL p, NearS a
  many : (restL p).length ≤ 3721
theorem boxedP {p : List Sp} (h : boxOk p = true) : ∃ lx ly gx gy, boxR p = ((lx, ly), (gx, gy)) ∧ BoxedP p lx ly gx gy := by
  have hbk := h
  unfold boxOk at hbk
  rw [Bool.and_eq_true, decide_eq_true_eq] at hbk
  obtain ⟨hp, hne⟩ := hbk
  have hrg := box_range hp hne
  have hbr : boxR p = boxL p := by unfold boxR; rw [h, if_pos rfl]
  have hhr : holesR p = holesL p := by unfold holesR; rw [hp, if_pos rfl]
  have hrest : restL p = betw (fun a => !decide (a ∈ p)) (boxL p).1 (boxL p).2 := by unfold restL; rw [if_neg hne]
  have hbox := isBox_boxL hne
  have hlo : (boxL p).1.1 ≤ (boxL p).2.1 := by obtain ⟨a, ha, e⟩ := hbox.lx; have := hbox.all a ha; omega
  have hlo2 : (boxL p).1.2 ≤ (boxL p).2.2 := by obtain ⟨a, ha, e⟩ := hbox.ly; have := hbox.all a ha; omega
  obtain ⟨⟨⟨lx, ly⟩, ⟨gx, gy⟩⟩, hbl⟩ : ∃ b, boxL p = b := ⟨_, rfl⟩
  rw [hbl] at hrest hrg hlo hlo2 hbr
  simp only at hrest hrg hlo hlo2
  have hmany : (restL p).length ≤ 3721 := by
    rw [hrest]
    have h := length_rowsB (fun a => !decide (a ∈ p)) lx ly (span lx gx) (span ly gy)
    have e1 : span lx gx ≤ 61 := by unfold span; omega
    have e2 : span ly gy ≤ 61 := by unfold span; omega
    have := Nat.mul_le_mul e2 e1
    unfold betw
    exact Nat.le_trans h this
  refine ⟨lx, ly, gx, gy, hbr, hrest, hbl, hhr, (picB_pic hp).2.2, (picB_pic hp).1, hrg.1, hrg.2, ⟨hlo, hlo2⟩, fun a ha => ?_, hmany⟩
  have := ((mem_restL hne).1 ha).1
  rw [hbl] at this
  simp only at this
  unfold NearS; omega
set_option maxRecDepth 100000 in
set_option maxHeartbeats 3200000 in
theorem specHoles_no (ps : List Sp) (v : Value) (w : World) (h : Reads w w.heap.size v ps) (hb : boxOk ps = false) :
    Calls Try.prog 31 #[v] w (GivesParts (holesR ps) w) := by
  obtain ⟨A, c, rfl, hc, hm⟩ := h.slice
  have b0 := box_below w #[] 23
  have oE := Parts.empty w w.heap.size (Nat.le_refl _)
  obtain ⟨W, hW⟩ : ∃ W, W = w.alloc (.cells #[] 23) := ⟨_, rfl⟩
  rw [← hW] at b0 oE
  have hbx := specBox_any ps _ W (h.kept b0)
  rw [hb, box_no hb] at hbx
  rw [holesR_nobox hb]
  clear hb
  go_enter Try.func31, Try.ntmps31
  go_wp2_with (first | (rw [← hW]; clear hW) | fail)
  refine hbx.mono ?_
  rintro e w1 ⟨rfl, b1⟩
  have o1 := oE.below b1
  have bb1 := below_step b0 b1
  obtain ⟨V, hV⟩ : ∃ V, V = ((w1.alloc (.cells #[.int .i64 0, .int .i64 0] 42)).alloc (.cells #[.int .i64 0, .int .i64 0] 42)).alloc (.cells #[] 42) := ⟨_, rfl⟩
  have bV : Below w1.heap.size w1 V := by rw [hV]; exact ((box_below w1 _ _).alloc (by simp) _).alloc (by simp; omega) _
  have oV := o1.below bV
  have bbV := below_step bb1 bV
  have a1 : V.cell? ⟨w1.heap.size, 1, none⟩ = some (.int .i64 0) := by rw [hV]; simp [go_sem, World.cell?_alloc_past]
  clear oE o1 bV
  go_wp2
  rw [← hV]
  clear hV
  refine wp_loop_rounds 1 ?_
  rw [rounds_succ]
  go_wp2_with (at_make; refine wpList_make_Bool 0 (by omega) rfl _ _ rfl _ _ rfl rfl rfl rfl ?_; intro w2 ho2 hg2)
  have hb2 : Below V.heap.size V w2 := (Below.refl _ _).grown hg2 (Nat.le_refl _) (by simp)
  have o2 := oV.below hb2
  have bb2 := below_step bbV hb2
  clear hg2
  refine wp_loop_rounds 1 ?_
  rw [rounds_succ]
  go_wp2
  go_ret
  exact ⟨_, rfl, o2, bb2⟩
theorem owns_betw {w : World} {base : Nat} {v : Value} {f : Sp → Bool} {lx ly gx gy : Int} (h : Owns w base v (rowsB f lx ly (span lx gx) (span ly gy))) : Owns w base v (betw f (lx, ly) (gx, gy)) := h
set_option maxRecDepth 100000 in
set_option maxHeartbeats 6400000 in
theorem specHoles_yes (ps : List Sp) (v : Value) (w : World) (lx ly gx gy : Int) (h : Reads w w.heap.size v ps) (hb : boxOk ps = true) (hbr : boxR ps = ((lx, ly), (gx, gy))) (hB : BoxedP ps lx ly gx gy) :
    Calls Try.prog 31 #[v] w (GivesParts (holesR ps) w) := by
  obtain ⟨A, c, rfl, hc, hm⟩ := h.slice
  have b0 := box_below w #[] 23
  have oE := VOwns.empty 23 w w.heap.size (Nat.le_refl _)
  obtain ⟨W, hW⟩ : ∃ W, W = w.alloc (.cells #[] 23) := ⟨_, rfl⟩
  have hWs : w.heap.size < W.heap.size := by rw [hW]; simp
  rw [← hW] at b0 oE
  have hbx := specBox_any ps _ W (h.kept b0)
  rw [hb, hbr] at hbx
  rw [hB.holes]
  have hps := hB.sort
  have hpl := hB.len
  have hb1 := hB.b1
  have hb2 := hB.b2
  have hb3 := hB.b3
  have hmany := hB.many
  have HB := Lib.hid hB
  obtain ⟨n, hn⟩ : ∃ n, n = span lx gx := ⟨_, rfl⟩
  have hn2 : n ≤ 201 := by rw [hn]; exact span_le (by omega) (by omega)
  have HN := Lib.hid hn
  clear hb hbr hB hn
  go_enter Try.func31, Try.ntmps31
  go_wp2_with (first | (rw [← hW]; clear hW) | fail)
  refine hbx.mono ?_
  rintro e w1 ⟨rfl, b1⟩
  have o1 := oE.below b1
  have bb1 := below_step b0 b1
  obtain ⟨V, hV⟩ : ∃ V, V = ((w1.alloc (.cells #[.int .i64 lx, .int .i64 ly] 42)).alloc (.cells #[.int .i64 gx, .int .i64 gy] 42)).alloc (.cells #[] 42) := ⟨_, rfl⟩
  have bV : Below w1.heap.size w1 V := by rw [hV]; exact ((box_below w1 _ _).alloc (by simp) _).alloc (by simp; omega) _
  have oV := o1.below bV
  have bbV := below_step bb1 bV
  have rowL : V.heap[w1.heap.size]? = some (.cells #[.int .i64 lx, .int .i64 ly] 42 (0, 0)) := by
    rw [hV]
    exact (((box_below (w1.alloc (.cells #[.int .i64 lx, .int .i64 ly] 42)) _ _).alloc (by simp) _).block _ (by simp)).trans (heap_alloc_new w1 _)
  have rowG : V.heap[w1.heap.size + 1]? = some (.cells #[.int .i64 gx, .int .i64 gy] 42 (0, 0)) := by
    rw [hV]
    have := heap_alloc_new (w1.alloc (.cells #[.int .i64 lx, .int .i64 ly] 42)) (.cells #[.int .i64 gx, .int .i64 gy] 42)
    rw [World.size_alloc] at this
    exact ((box_below ((w1.alloc (.cells #[.int .i64 lx, .int .i64 ly] 42)).alloc (.cells #[.int .i64 gx, .int .i64 gy] 42)) _ _).block _ (by simp)).trans this
  have oR : Owns V (w1.heap.size + 2) (.slice (some ⟨w1.heap.size + 1 + 1, 0, none⟩) 0 0) [] := by
    have := Owns.empty ((w1.alloc (.cells #[.int .i64 lx, .int .i64 ly] 42)).alloc (.cells #[.int .i64 gx, .int .i64 gy] 42)) (w1.heap.size + 2) (by simp)
    rw [World.size_alloc, World.size_alloc] at this
    rw [hV]; exact this
  have hVs : w1.heap.size + 3 = V.heap.size := by rw [hV]; simp
  have hw1 : w.heap.size < w1.heap.size := Nat.lt_of_lt_of_le hWs b1.size
  have c0 := cell_of_row V _ 0 _ _ _ rowL
  have c1 := cell_of_row V _ 1 _ _ _ rowL
  have c2 := cell_of_row V _ 0 _ _ _ rowG
  have c3 := cell_of_row V _ 1 _ _ _ rowG
  simp only [List.getElem?_toArray, List.getElem?_cons_zero, List.getElem?_cons_succ] at c0 c1 c2 c3
  have a1 : (((w1.alloc (.cells #[.int .i64 lx, .int .i64 ly] 42)).alloc (.cells #[.int .i64 gx, .int .i64 gy] 42)).alloc (.cells #[] 42)).cell? ⟨w1.heap.size, 1, none⟩ = some (.int .i64 ly) := by rw [← hV]; exact c1
  clear oE o1 bV hbx
  go_wp2
  rw [← hV]
  clear hV a1
  generalize w1.heap.size = L at rowL rowG oR hVs hw1 c0 c1 c2 c3 ⊢
  go_loopw [7, 8] (fun o i wr => ∃ y : Int, i = .int .i64 y ∧ ly ≤ y ∧ (y ≤ ly ∨ y ≤ gy + 1) ∧ Owns wr (L + 2) o (rowsB (fun a => !decide (a ∈ ps)) lx ly n (y - ly).toNat) ∧ Below (L + 2) V wr) (fun _ i _ => (gy + 1 - intOf i).toNat)
  case atStart => exact ⟨ly, rfl, by omega, Or.inl (by omega), by rw [Int.sub_self]; exact oR, Below.refl _ _⟩
  case round =>
    clear oR
    obtain ⟨y, rfl, hy1, hy2, hown, hbw⟩ := hrel
    have hbs := hbw.size
    by_cases hlt : y ≤ gy
    · have q1 := (hbw.cell (p := ⟨L, 0, none⟩) (by simp only []; omega)).trans c0
      have q3 := (hbw.cell (p := ⟨L + 1, 1, none⟩) (by simp only []; omega)).trans c3
      go_wp2
      go_loopw [7, 9] (fun o i wr => ∃ x : Int, i = .int .i64 x ∧ lx ≤ x ∧ (x ≤ lx ∨ x ≤ gx + 1) ∧ Owns wr (L + 2) o (rowsB (fun a => !decide (a ∈ ps)) lx ly n (y - ly).toNat ++ rowB (fun a => !decide (a ∈ ps)) lx y (x - lx).toNat) ∧ Below (L + 2) V wr) (fun _ i _ => (gx + 1 - intOf i).toNat)
      case atStart => exact ⟨lx, rfl, by omega, Or.inl (by omega), by rw [Int.sub_self]; simpa [rowB_zero] using hown, hbw⟩
      case round =>
        clear hbw hown q1 q3 hbs
        obtain ⟨x, rfl, hx1, hx2, hown, hbw⟩ := hrel
        have hbs := hbw.size
        have q2 := (hbw.cell (p := ⟨L + 1, 0, none⟩) (by simp only []; omega)).trans c2
        by_cases hlx : x ≤ gx
        · have hlen := length_part (fun a => !decide (a ∈ ps)) lx ly y x n hn2 (by omega) (by omega)
          have hW2 : Below w.heap.size w wr := bbV.trans (hbw.mono (by omega))
          have hrp := h.kept hW2
          rcases hff : decide (((x, y) : Sp) ∈ ps) with _ | _
          · have HT := Lib.hid (row_yes (f := fun a => !decide (a ∈ ps)) hx1 (show (!decide (((x, y) : Sp) ∈ ps)) = true by rw [hff]; rfl))
            have HF := Lib.hid hff
            clear hff
            go_wp2_with fail
            refine (l1Has_is HF.out hrp hps (by omega)).mono ?_
            rintro e w2 ⟨rfl, b2⟩
            have bw2 := hbw.trans (b2.mono (by omega))
            have o2 := hown.below b2
            have o3 := o2.below (box_below w2 #[.int .i64 x, .int .i64 y] 42)
            have s2 := bw2.size
            go_wp2_with (at_builtin; refine wpList_append_spots (qs := [(x, y)]) o3 (Reads.one (g := w2.heap.size) (by simp [go_sem]) (by simp [go_sem])) (by simp only [List.length_cons, List.length_nil]; omega) (by simp only [World.size_alloc]; omega) rfl (.tmp 49) (.tmp 53) rfl rfl rfl ?_)
            intro v4 w4 o4 g4 hv4
            have bw4 := o3.below_app (bw2.alloc (by omega) _) (by simp only [World.size_alloc]; omega) g4
            go_wp2
            go_roundw
            case rel => exact ⟨x + 1, rfl, by omega, Or.inr (by omega), by rw [← HT.out]; first | exact o4 | (rw [← List.append_assoc]; exact o4), bw4⟩
            case measure => simp [intOf]; omega
          · have HT := Lib.hid (row_no (f := fun a => !decide (a ∈ ps)) hx1 (show (!decide (((x, y) : Sp) ∈ ps)) = false by rw [hff]; rfl))
            have HF := Lib.hid hff
            clear hff
            go_wp2_with fail
            refine (l1Has_is HF.out hrp hps (by omega)).mono ?_
            rintro e w2 ⟨rfl, b2⟩
            have bw2 := hbw.trans (b2.mono (by omega))
            have o2 := hown.below b2
            go_wp2
            go_roundw
            case rel => exact ⟨x + 1, rfl, by omega, Or.inr (by omega), by rw [← HT.out]; exact o2, bw2⟩
            case measure => simp [intOf]; omega
        · have HE := Lib.hid (span_end (show gx < x by omega) hx2 hx1)
          have HR := Lib.hid (rows_next (f := fun a => !decide (a ∈ ps)) (x := lx) (n := n) hy1)
          rw [HE.out, ← HN.out, HR.out] at hown
          go_wp2
          go_roundw
          case rel => exact ⟨y + 1, rfl, by omega, Or.inr (by omega), hown, hbw⟩
          case measure => simp [intOf]; omega
    · have q3 := (hbw.cell (p := ⟨L + 1, 1, none⟩) (by simp only []; omega)).trans c3
      have HE := Lib.hid (span_end (show gy < y by omega) hy2 hy1)
      rw [HE.out, HN.out] at hown
      have hown := owns_betw hown
      rw [← HB.out.rest] at hown
      have hrowL := (hbw.block L (by omega)).trans rowL
      have hrowG := (hbw.block (L + 1) (by omega)).trans rowG
      have hout := oV.keepB (B := L + 2) (fun g hg => by have e : w.heap.size = g := Option.some.inj hg; omega) hbw
      have hW2 : Below w.heap.size w wr := bbV.trans (hbw.mono (by omega))
      have hwL : w.heap.size ≤ L + 2 := by omega
      clear c0 c1 c2 c3 rowL rowG oV bbV hVs hbw
      obtain ⟨AR, cR, rfl, _, hcR⟩ := hown.reads.slice
      unfold maxLen at hcR
      have HNEAR := Lib.hid HB.out.near
      have HALL := Lib.hid (holesUpto_all HB.out.box)
      have hsR := sorted_restL ps
      have hs0 : Says (restL ps) (List.replicate (restL ps).length false) (reachB false (restL ps) ((restL ps).take 0)) := by rw [List.take_zero]; exact says_none
      obtain ⟨R, hR⟩ : ∃ R, restL ps = R := ⟨_, rfl⟩
      rw [hR] at hown hmany HNEAR HALL hsR hs0 ⊢
      clear hR
      go_wp2_with (at_make; refine wpList_make_Bool R.length (by omega) rfl _ _ rfl _ _ rfl rfl rfl rfl ?_; intro w2 ho2 hg2)
      have hb2 : Below wr.heap.size wr w2 := (Below.refl _ _).grown hg2 (Nat.le_refl _) (by simp)
      rw [boolsV_replicate] at ho2
      have H0 : HolW w w2 L (L + 1) wr.heap.size R.length lx ly gx gy (.slice AR R.length cR) (.slice (some ⟨w.heap.size, 0, none⟩) 0 0) R [] (holesUpto R (lx, ly) (gx, gy) 0) (List.replicate R.length false) :=
        ⟨(hb2.block L (Array.getElem?_eq_some_iff.1 hrowL).1).trans hrowL, (hb2.block (L + 1) (Array.getElem?_eq_some_iff.1 hrowG).1).trans hrowG, (hown.below hb2).base hwL, ho2.lower hW2.size, hout.below hb2, ⟨rfl, fun k p h => (by rw [holesUpto_zero] at h; cases h), fun i j u u' _ h => (by cases h)⟩, below_step hW2 hb2⟩
      clear hg2 ho2 hrowL hrowG hout hown hb2
      obtain ⟨D, hD⟩ : ∃ D, wr.heap.size = D := ⟨_, rfl⟩
      rw [hD] at H0 ⊢
      clear hD
      go_wp2
      go_loopw [3, 11] (fun ov i wr => ∃ (k : Nat) (vs : List Value) (dn : List Bool), k ≤ R.length ∧ i = .int .i64 k ∧ Says R dn (reachB false R (R.take k)) ∧ HolW w wr L (L + 1) D R.length lx ly gx gy (.slice AR R.length cR) ov R vs (holesUpto R (lx, ly) (gx, gy) k) dn) (fun _ i _ => R.length - (intOf i).toNat)
      case atStart => exact ⟨0, _, _, Nat.zero_le _, rfl, hs0, H0⟩
      case round =>
        clear H0 hs0 hW2 hbs
        obtain ⟨k, vs, dn, hk, rfl, hsay, H⟩ := hrel
        have hbnd := H.bounds
        have hvl := H.inn.len
        have hlen := length_holesUpto R (lx, ly) (gx, gy) k
        by_cases hlk : k < R.length
        · obtain ⟨gR, cR', hvR, _, _⟩ := H.rest.shape2 (by omega)
          injection hvR with hAR _ hcc
          subst hAR hcc
          obtain ⟨x, y, hxy, _, _⟩ := H.rest.there hlk
          have hdk := hsay.2 k _ hxy
          have hcd := (H.done.cell (k := k) (by rw [boolsV_length, hsay.1]; exact hlk)).trans (boolsV_at hdk)
          have hfk := first_reached (e := false) hsR hxy
          have hm3 : (0 : Int) ≤ (k : Int) := Int.natCast_nonneg _
          have hm4 : (k : Int) < (R.length : Int) := by omega
          have HSAY := Lib.hid hsay
          have HXY := Lib.hid hxy
          rcases hz : reachB false R (R.take k) (x, y) with _ | _
          · rw [hz] at hcd hfk hdk
            have HF := Lib.hid (show firstB false R (x, y) = true by rw [hfk]; rfl)
            clear hz hfk hdk hsay hxy
            obtain ⟨B, hBe⟩ : ∃ B, wr.heap.size = B := ⟨_, rfl⟩
            have hBw : w.heap.size ≤ B := by rw [← hBe]; exact H.below.size
            rw [hBe] at hbnd
            go_wp2_with (at_make; refine wpList_make_Bool R.length (by omega) rfl _ _ rfl _ _ rfl rfl rfl rfl ?_; intro w3 hs3 hg3)
            rw [boolsV_replicate] at hs3
            have hb3' : Below wr.heap.size wr w3 := (Below.refl _ _).grown hg3 (Nat.le_refl _) (by simp)
            have hrd := H.rest.reads.below hb3'
            have H3 := H.next hb3'
            rw [hBe] at hs3 hb3' hrd
            clear hg3 H hcd
            go_wp2_with fail
            refine (l7Mark_any false R _ _ k B B R.length R.length (x, y) w3 hrd hsR (by omega) HNEAR.out hs3 List.length_replicate HXY.out closed_none).mono ?_
            rintro e w4 ⟨rfl, sn, k4, hI4, hs4, hg4⟩
            have hb4 : Below B wr w4 := hb3'.grown hg4 (by have := hb3'.size; omega) (fun g hg => by cases hg; exact Nat.le_refl _)
            have hB4 : B < w4.heap.size := (hs4.lt B rfl).2
            have H4 : HolW w w4 L (L + 1) D R.length lx ly gx gy (.slice (some ⟨gR, 0, none⟩) R.length cR) _ R vs (holesUpto R (lx, ly) (gx, gy) k) dn := H3.keepB hbnd ((Below.refl B w3).grown hg4 (by have := hb3'.size; omega) (fun g hg => by cases hg; exact Nat.le_refl _)) hBw
            have HSN := Lib.hid (says_one hI4 hsR)
            have bal := box_below w4 #[] 42
            have H5 := H4.next bal
            have s5 := hs4.below bal
            have p5 := Owns.empty w4 w4.heap.size (Nat.le_refl _)
            have hC5 := bal.size
            have hin0 := innUpto_zero R (reachB false R [(x, y)]) (lx, ly) (gx, gy)
            clear hs3 hb3' hrd H3 hI4 hs4 hg4 hb4 H4 bal hBe
            go_wp2
            obtain ⟨C, hCe⟩ : ∃ C, w4.heap.size = C := ⟨_, rfl⟩
            rw [hCe] at hB4 p5 hC5 ⊢
            clear hCe
            go_loopw [13, 14, 15] (fun pv inn jj wr' => ∃ (j : Nat) (cur : List Bool), j ≤ R.length ∧ jj = .int .i64 j ∧ inn = .bool (innUpto R (reachB false R [(x, y)]) (lx, ly) (gx, gy) j) ∧ DoneI dn sn cur j ∧ HolW w wr' L (L + 1) D R.length lx ly gx gy (.slice (some ⟨gR, 0, none⟩) R.length cR) _ R vs (holesUpto R (lx, ly) (gx, gy) k) cur ∧ VOwns 4 wr' B (.slice (some ⟨B, 0, none⟩) R.length R.length) (boolsV sn) ∧ Owns wr' C pv ((R.take j).filter (reachB false R [(x, y)])) ∧ C ≤ wr'.heap.size) (fun _ _ jj _ => R.length - (intOf jj).toNat)
            case atStart => exact ⟨0, dn, Nat.zero_le _, rfl, rfl, DoneI.begin dn sn, H5, s5, p5, hC5⟩
            case round =>
              clear H5 s5 p5 hC5 hin0
              obtain ⟨j, cur, hj, rfl, rfl, hD, H, hs, hp, hC⟩ := hrel
              by_cases hlj : j < R.length
              · obtain ⟨u, t, hut, _, _⟩ := H.rest.there hlj
                have hsj := HSN.out.2 j _ hut
                have hcs := (hs.cell (k := j) (by rw [boolsV_length, HSN.out.1]; exact hlj)).trans (boolsV_at hsj)
                have hj0 : (0 : Int) ≤ (j : Int) := Int.natCast_nonneg _
                have hj1 : (j : Int) < (R.length : Int) := by omega
                have hpl' := filt_len R (reachB false R [(x, y)]) j
                rcases hg : reachB false R [(x, y)] (u, t) with _ | _
                · rw [hg] at hcs hsj
                  have HT := Lib.hid (innUpto_no (lo := (lx, ly)) (hi := (gx, gy)) hut hg)
                  have HTP := Lib.hid (filt_no hut hg)
                  have HDN := Lib.hid (hD.no hsj)
                  clear hut hg hsj hD
                  go_wp2
                  go_roundw
                  case rel => exact ⟨j + 1, cur, by omega, by go_num, by rw [HT.out], HDN.out, H, hs, by rw [← HTP.out]; exact hp, hC⟩
                  case measure => simp [intOf]; omega
                · rw [hg] at hcs hsj
                  have HTP := Lib.hid (filt_yes hut hg)
                  have HDY := Lib.hid (hD.yes hsj (by rw [HSAY.out.1]; exact hlj))
                  have HU := Lib.hid (And.intro hut hg)
                  have hcur : cur.length = R.length := hD.len.trans HSAY.out.1
                  obtain ⟨z, hz⟩ : ∃ z, cur[j]? = some z := ⟨_, List.getElem?_eq_getElem (by omega)⟩
                  have hcz := (H.done.cell (k := j) (by rw [boolsV_length]; omega)).trans (boolsV_at hz)
                  have hfz := H.done.free j
                  have H5 := H.setDone j
                  have hgs := setGrown wr D j (.bool true)
                  have s5 := hs.setOther (a := ⟨D, j, none⟩) (.inr fun e => by have e : B = D := Option.some.inj e; have := hbnd.d; omega) (.bool true)
                  have p5 := hp.grown hgs (H.done.apartO (by decide) hp)
                  have hsz5 : (wr.setCell ⟨D, j, none⟩ (.bool true)).heap.size = wr.heap.size := by simp [World.setCell]
                  have hC5 : C ≤ (wr.setCell ⟨D, j, none⟩ (.bool true)).heap.size := by rw [hsz5]; exact hC
                  have bal6 := box_below (wr.setCell ⟨D, j, none⟩ (.bool true)) #[.int .i64 u, .int .i64 t] 42
                  have H6 := H5.next bal6
                  have s6 := s5.below bal6
                  have p6 := p5.below bal6
                  have hC6 := Nat.le_trans hC5 bal6.size
                  obtain ⟨u', t', hut', q0, q1⟩ := H.rest.there hlj
                  rw [HU.out.1] at hut'
                  injection hut' with hut'
                  injection hut' with hu' ht'
                  subst hu' ht'
                  obtain ⟨u', t', hut', r0, r1⟩ := H5.rest.there hlj
                  rw [HU.out.1] at hut'
                  injection hut' with hut'
                  injection hut' with hu' ht'
                  subst hu' ht'
                  clear hut hg hsj hD hz hcur H hs hp hgs H5 s5 p5 q0 q1
                  go_wp2_with (at_builtin; refine wpList_append_spots (qs := [(u, t)]) p6 (Reads.one (g := wr.heap.size) (by simp [go_sem]) (by simp [go_sem])) (by simp only [List.length_cons, List.length_nil]; omega) hC6 rfl (.tmp 89) (.tmp 94) rfl rfl rfl ?_)
                  intro v7 w7 p7 g7 hv7
                  have hb7 : Below C ((wr.setCell ⟨D, j, none⟩ (.bool true)).alloc (.cells #[.int .i64 u, .int .i64 t] 42)) w7 := (Below.refl _ _).grown g7 hC6 (fun g hg => (p6.lt g hg).1)
                  have H7 := H6.keepB hbnd (hb7.mono (Nat.le_of_lt hB4)) hBw
                  have s7 := s6.keepB (fun g hg => by have e : B = g := Option.some.inj hg; omega) hb7
                  have hC7 := Nat.le_trans hC6 hb7.size
                  clear H6 s6 p6 hC6 hb7 g7 hv7 r0 r1 hcz hfz hcs
                  obtain ⟨u', t', hut', d0, d1⟩ := H7.rest.there hlj
                  rw [HU.out.1] at hut'
                  injection hut' with hut'
                  injection hut' with hu' ht'
                  subst hu' ht'
                  have d2 := cell_of_row w7 _ 0 _ _ _ H7.rowL
                  have d3 := cell_of_row w7 _ 1 _ _ _ H7.rowL
                  have d4 := cell_of_row w7 _ 0 _ _ _ H7.rowG
                  have d5 := cell_of_row w7 _ 1 _ _ _ H7.rowG
                  simp only [List.getElem?_toArray, List.getElem?_cons_zero, List.getElem?_cons_succ] at d2 d3 d4 d5
                  have d0 := cell_regrown d0
                  have d1 := cell_regrown d1
                  have d2 := cell_regrown d2
                  have d3 := cell_regrown d3
                  have d4 := cell_regrown d4
                  have d5 := cell_regrown d5
                  rcases hfl : innUpto R (reachB false R [(x, y)]) (lx, ly) (gx, gy) j with _ | _
                  · have HT := Lib.hid (innUpto_out HU.out.1 HU.out.2 (.inl hfl))
                    clear hfl
                    go_wp2
                    refine wp_region_quiet_below (by kernel_rfl) (by kernel_rfl) ?_
                    repeat (go_big_quiet_step (first | fail))
                    refine wpQuiet_nil ?_
                    intro w8 hw'
                    obtain ⟨⟨dq, osq⟩, hw''⟩ := hw'
                    have hb8 : Below w7.heap.size w7 w8 := by rw [hw'']; exact below_regrown _ _ _
                    clear hw'' dq osq
                    have H8 := H7.next hb8
                    have s8 := s7.below hb8
                    have p8 := p7.below hb8
                    have hC8 := Nat.le_trans hC7 hb8.size
                    go_wp2
                    go_roundw
                    case rel => exact ⟨j + 1, cur.set j true, by omega, by go_num, by rw [HT.out], HDY.out, H8, s8, by rw [← HTP.out]; exact p8, hC8⟩
                    case measure => simp [intOf]; omega
                  · by_cases t1 : lx < u
                    · by_cases t2 : u < gx
                      · by_cases t3 : ly < t
                        · by_cases t4 : t < gy
                          · have HT := Lib.hid (innUpto_in HU.out.1 HU.out.2 hfl ⟨t1, t2, t3, t4⟩)
                            clear hfl
                            go_wp2
                            refine wp_region_quiet_below (by kernel_rfl) (by kernel_rfl) ?_
                            repeat (go_big_quiet_step (first | fail))
                            refine wpQuiet_nil ?_
                            intro w8 hw'
                            obtain ⟨⟨dq, osq⟩, hw''⟩ := hw'
                            have hb8 : Below w7.heap.size w7 w8 := by rw [hw'']; exact below_regrown _ _ _
                            clear hw'' dq osq
                            have H8 := H7.next hb8
                            have s8 := s7.below hb8
                            have p8 := p7.below hb8
                            have hC8 := Nat.le_trans hC7 hb8.size
                            go_wp2
                            go_roundw
                            case rel => exact ⟨j + 1, cur.set j true, by omega, by go_num, by rw [HT.out], HDY.out, H8, s8, by rw [← HTP.out]; exact p8, hC8⟩
                            case measure => simp [intOf]; omega
                          · have HT := Lib.hid (innUpto_out (lx := lx) (ly := ly) (gx := gx) (gy := gy) HU.out.1 HU.out.2 (.inr fun h => t4 h.2.2.2))
                            clear hfl
                            have e4 : decide (t < gy) = false := decide_eq_false t4
                            go_wp2
                            refine wp_region_quiet_below (by kernel_rfl) (by kernel_rfl) ?_
                            repeat (go_big_quiet_step (first | fail))
                            refine wpQuiet_nil ?_
                            intro w8 hw'
                            obtain ⟨⟨dq, osq⟩, hw''⟩ := hw'
                            have hb8 : Below w7.heap.size w7 w8 := by rw [hw'']; exact below_regrown _ _ _
                            clear hw'' dq osq
                            have H8 := H7.next hb8
                            have s8 := s7.below hb8
                            have p8 := p7.below hb8
                            have hC8 := Nat.le_trans hC7 hb8.size
                            go_wp2
                            go_roundw
                            case rel => exact ⟨j + 1, cur.set j true, by omega, by go_num, by rw [HT.out], HDY.out, H8, s8, by rw [← HTP.out]; exact p8, hC8⟩
                            case measure => simp [intOf]; omega
                        · have HT := Lib.hid (innUpto_out (lx := lx) (ly := ly) (gx := gx) (gy := gy) HU.out.1 HU.out.2 (.inr fun h => t3 h.2.2.1))
                          clear hfl
                          have e3 : decide (ly < t) = false := decide_eq_false t3
                          go_wp2
                          refine wp_region_quiet_below (by kernel_rfl) (by kernel_rfl) ?_
                          repeat (go_big_quiet_step (first | fail))
                          refine wpQuiet_nil ?_
                          intro w8 hw'
                          obtain ⟨⟨dq, osq⟩, hw''⟩ := hw'
                          have hb8 : Below w7.heap.size w7 w8 := by rw [hw'']; exact below_regrown _ _ _
                          clear hw'' dq osq
                          have H8 := H7.next hb8
                          have s8 := s7.below hb8
                          have p8 := p7.below hb8
                          have hC8 := Nat.le_trans hC7 hb8.size
                          go_wp2
                          go_roundw
                          case rel => exact ⟨j + 1, cur.set j true, by omega, by go_num, by rw [HT.out], HDY.out, H8, s8, by rw [← HTP.out]; exact p8, hC8⟩
                          case measure => simp [intOf]; omega
                      · have HT := Lib.hid (innUpto_out (lx := lx) (ly := ly) (gx := gx) (gy := gy) HU.out.1 HU.out.2 (.inr fun h => t2 h.2.1))
                        clear hfl
                        have e2 : decide (u < gx) = false := decide_eq_false t2
                        go_wp2
                        refine wp_region_quiet_below (by kernel_rfl) (by kernel_rfl) ?_
                        repeat (go_big_quiet_step (first | fail))
                        refine wpQuiet_nil ?_
                        intro w8 hw'
                        obtain ⟨⟨dq, osq⟩, hw''⟩ := hw'
                        have hb8 : Below w7.heap.size w7 w8 := by rw [hw'']; exact below_regrown _ _ _
                        clear hw'' dq osq
                        have H8 := H7.next hb8
                        have s8 := s7.below hb8
                        have p8 := p7.below hb8
                        have hC8 := Nat.le_trans hC7 hb8.size
                        go_wp2
                        go_roundw
                        case rel => exact ⟨j + 1, cur.set j true, by omega, by go_num, by rw [HT.out], HDY.out, H8, s8, by rw [← HTP.out]; exact p8, hC8⟩
                        case measure => simp [intOf]; omega
                    · have HT := Lib.hid (innUpto_out (lx := lx) (ly := ly) (gx := gx) (gy := gy) HU.out.1 HU.out.2 (.inr fun h => t1 h.1))
                      clear hfl
                      have e1 : decide (lx < u) = false := decide_eq_false t1
                      go_wp2
                      refine wp_region_quiet_below (by kernel_rfl) (by kernel_rfl) ?_
                      repeat (go_big_quiet_step (first | fail))
                      refine wpQuiet_nil ?_
                      intro w8 hw'
                      obtain ⟨⟨dq, osq⟩, hw''⟩ := hw'
                      have hb8 : Below w7.heap.size w7 w8 := by rw [hw'']; exact below_regrown _ _ _
                      clear hw'' dq osq
                      have H8 := H7.next hb8
                      have s8 := s7.below hb8
                      have p8 := p7.below hb8
                      have hC8 := Nat.le_trans hC7 hb8.size
                      go_wp2
                      go_roundw
                      case rel => exact ⟨j + 1, cur.set j true, by omega, by go_num, by rw [HT.out], HDY.out, H8, s8, by rw [← HTP.out]; exact p8, hC8⟩
                      case measure => simp [intOf]; omega
              · obtain rfl : j = R.length := by omega
                rw [List.take_length, ← reachL_is] at hp
                have hall := innUpto_all R (reachB false R [(x, y)]) (lx, ly) (gx, gy)
                rw [← reachL_is] at hall
                have HSAY2 := Lib.hid (says_done HXY.out hD HSAY.out HSN.out)
                rw [hall]
                obtain ⟨P, hP⟩ : ∃ P, reachL false R [(x, y)] = P := ⟨_, rfl⟩
                rw [hP] at hp
                obtain ⟨Ap, cp, rfl, _, _⟩ := hp.reads.slice
                rcases hfl : innerB (lx, ly) (gx, gy) (reachL false R [(x, y)]) with _ | _
                · have HU := Lib.hid (holesUpto_out HXY.out HF.out hfl)
                  clear hfl hD hall hP
                  go_wp2
                  go_roundw
                  case rel => exact ⟨k + 1, vs, cur, by omega, by go_num, HSAY2.out, by rw [← HU.out]; exact H⟩
                  case measure => simp [intOf]; omega
                · have HU := Lib.hid (holesUpto_in HXY.out HF.out hfl)
                  rw [hP] at HU
                  clear hfl hD hall hP
                  have bal := box_below wr #[.slice Ap P.length cp] 23
                  have H5 := H.next bal
                  have p5 := hp.below bal
                  have hs5 := H5.below.size
                  go_wp2_with (at_builtin; refine wpList_append_Part (g := wr.heap.size) (x := .slice Ap P.length cp) H5.out (by simp [go_sem]) rfl (by omega) hs5 rfl (.tmp 138) (.tmp 140) rfl rfl rfl ?_)
                  intro v6 w6 hv6 g6 hb6
                  have H6 := H5.push hbnd (p5.base (Nat.le_of_lt hB4)) hBw hv6 g6
                  clear H H5 p5 hp hs hv6 g6 hb6
                  go_wp2
                  go_roundw
                  case rel => exact ⟨k + 1, _, cur, by omega, by go_num, HSAY2.out, by rw [← HU.out]; exact H6⟩
                  case measure => simp [intOf]; omega
          · rw [hz] at hcd hfk hdk
            have HSK := Lib.hid (says_skip hsay hxy hxy hdk)
            have HU := Lib.hid (holesUpto_skip (lo := (lx, ly)) (hi := (gx, gy)) hxy (show firstB false R (x, y) = false by rw [hfk]; rfl))
            clear hz hfk hdk hsay hxy
            go_wp2
            go_roundw
            case rel => exact ⟨k + 1, vs, dn, by omega, by go_num, HSK.out, by rw [← HU.out]; exact H⟩
            case measure => simp [intOf]; omega
        · obtain rfl : k = R.length := by omega
          have hout : Parts wr w.heap.size _ (holesUpto R (lx, ly) (gx, gy) R.length) := ⟨vs, H.out, H.inn⟩
          rw [HALL.out] at hout
          have hbw := H.below
          clear H hsay hbnd
          go_wp2
          go_ret
          exact ⟨_, rfl, hout, hbw⟩
theorem specHoles_any (ps : List Sp) (v : Value) (w : World) (h : Reads w w.heap.size v ps) :
    Calls Try.prog 31 #[v] w (GivesParts (holesR ps) w) := by
  rcases hb : boxOk ps with _ | _
  · exact specHoles_no ps v w h hb
  · obtain ⟨lx, ly, gx, gy, h1, h2⟩ := boxedP hb
    exact specHoles_yes ps v w lx ly gx gy h hb h1 h2
end
end Go.Proofs.Ytmpfhdcefilekaa
