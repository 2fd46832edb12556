/- The draws of deeds, of texts of deeds and of journals. No conditions but those typed. -/
import Derived.Test.YtpdnakiilhohdaaDoorDrawR
import Derived.Test.YtpdnakiilhohdaaDoorDeedR
import Derived.Deep.RegionWith
namespace Go.Proofs.YtpdnakiilhohdaaDoor
open Go.RowKit Go.Sort

theorem frozen3_of {w : World} {g : Nat} {a b c : Value} {T : TypeId} (h : w.heap[g]? = some (.cells #[a, b, c] T (0, 0))) : w.frozen? ⟨g, 0, none⟩ = false ∧ w.frozen? ⟨g, 1, none⟩ = false ∧ w.frozen? ⟨g, 2, none⟩ = false :=
  ⟨frozen_of_row w _ 0 _ _ h, frozen_of_row w _ 1 _ _ h, frozen_of_row w _ 2 _ _ h⟩
set_option maxRecDepth 100000 in
set_option maxHeartbeats 1600000 in
theorem drawDeedT_any (A : Option Addr) (n c : Nat) (w : World) (hb : Bytes w w.heap.size A n) (hn : n ≤ c) (hc : c ≤ 9223372036854775807) :
    Calls Tryd.prog 10 #[.slice A n c] w fun e w' => ∃ k x y : Int, e = .returned (.agg #[.int .i64 k, .int .i64 x, .int .i64 y]) ∧ Below w.heap.size w w' := by
  obtain ⟨W, hW⟩ : ∃ W, W = w.alloc (.cells #[.int .i64 0, .int .i64 0, .int .i64 0] 24) := ⟨_, rfl⟩
  have b0 : Below w.heap.size w W := by rw [hW]; exact box_below _ _ _
  have r0 : W.heap[w.heap.size]? = some (.cells #[.int .i64 0, .int .i64 0, .int .i64 0] 24 (0, 0)) := by rw [hW]; exact heap_alloc_new _ _
  have s0 : w.heap.size < W.heap.size := by rw [hW]; simp
  have hbW : Bytes W W.heap.size A n := (hb.below b0).more (by omega)
  go_enter Tryd.func10, Tryd.ntmps10
  go_wp2_with (first | (rw [← hW]; clear hW) | fail)
  refine (open_any A n c _ hbW hn hc).mono ?_
  rintro e w1 ⟨n', rfl, r1, b1⟩
  have q1 := (b1.block _ s0).trans r0
  have sq1 : w.heap.size < w1.heap.size := (Array.getElem?_eq_some_iff.1 q1).1
  have bb := below_step b0 b1
  obtain ⟨g, hg⟩ : ∃ g, W.heap.size = g := ⟨_, rfl⟩
  rw [hg] at r1 s0 ⊢
  replace hg := Lib.hid hg
  clear b0 b1 r0 hbW hb
  go_wp2_with fail
  refine (spots_any g n' c 0 A 5 0 _ r1 (by omega) (by omega) (by omega) (by omega) (by omega)).mono ?_
  rintro e w2 ⟨v, ps, q, rfl, I, hl, hq⟩
  have hgs := I.grown
  have q2 := (hgs.block w.heap.size sq1 (fun e => by injection e with e; omega)).trans q1
  have sq2 : w.heap.size < w2.heap.size := (Array.getElem?_eq_some_iff.1 q2).1
  have bb := Below.grown bb hgs (by omega) (fun k e => by injection e with e; omega)
  have hnow : ∀ w', w2.grownBy w' (some g) → Reads w' w'.heap.size v ps := fun w' h => by
    refine (I.own.grown h ?_).reads
    cases hv : v.ownBlock with
    | none => exact .inl rfl
    | some k => exact .inr (fun e => by injection e with e; have := (I.own.lt k hv).1; have := r1.lt; omega)
  go_wp2_with fail
  refine (deed_any g n' c q A ps v w2 I.rd hnow (by omega) (by omega)).mono ?_
  rintro e w3 ⟨k, x, y, q3, rfl, r3, hq3, g3⟩
  have q4 := (g3.block w.heap.size sq2 (fun e => by injection e with e; omega)).trans q2
  have bb := Below.grown bb g3 (by omega) (fun k e => by injection e with e; omega)
  obtain ⟨z0, z1, z2⟩ := cells3_s q4
  obtain ⟨f0, f1, f2⟩ := frozen3_of q4
  clear q1 q2 I hnow r3 g3 r1 hgs
  go_wp2
  refine bodyPost_ret (v := .agg #[.int .i64 k, .int .i64 x, .int .i64 y]) (by simp [results, Tryd.results10, go_sem, *]) rfl ⟨k, x, y, rfl, below_set3 bb (Nat.le_refl _) _ _ _⟩

/-! ### a byte of a text changed -/
theorem litsB_of {w : World} {g m : Nat} {T : TypeId} (ls : List Bs) (c : w.heap[g]? = some (.cells (ls.map strV).toArray T)) (hm : m < ls.length) (hx : ∀ l ∈ ls, l.length ≤ 10) :
    ∃ x : Bs, x.length ≤ 10 ∧ w.cell? ⟨g, m, none⟩ = some (.string (bs x)) := by
  refine ⟨ls[m], hx _ (List.getElem_mem hm), ?_⟩
  rw [cell_of_row w _ m _ _ _ c]
  simp [hm]
theorem litsB_at {W w5 : World} {g m5 : Nat} {T : TypeId} (ls : List Bs) (hr : W.heap.size ≠ g) (h : (W.alloc (.cells (ls.map strV).toArray T)).drew.grownBy w5 (some g)) (hm : m5 < ls.length) (hx : ∀ l ∈ ls, l.length ≤ 10) :
    ∃ x : Bs, x.length ≤ 10 ∧ w5.cell? ⟨W.heap.size, m5, none⟩ = some (.string (bs x)) :=
  litsB_of ls ((h.block W.heap.size (show W.heap.size < (W.alloc (.cells (ls.map strV).toArray T)).heap.size by simp) (fun e => by injection e with e; exact hr e)).trans (heap_alloc_new W (.cells (ls.map strV).toArray T))) hm hx
theorem litsB_new {W : World} {m5 : Nat} {T : TypeId} (ls : List Bs) (hm : m5 < ls.length) (hx : ∀ l ∈ ls, l.length ≤ 10) :
    ∃ x : Bs, x.length ≤ 10 ∧ (W.alloc (.cells (ls.map strV).toArray T)).cell? ⟨W.heap.size, m5, none⟩ = some (.string (bs x)) ∧ (ls.map strV).toArray[m5]? = some (.string (bs x)) ∧ (ls.map strV)[m5]? = some (.string (bs x)) :=
  ⟨ls[m5], hx _ (List.getElem_mem hm), by rw [cell_of_row _ _ m5 _ _ _ (heap_alloc_new W (.cells (ls.map strV).toArray T))]; simp [hm], by simp [hm], by simp [hm]⟩
/-- what reads on, and what was there -/
structure RdG (w w' : World) (g n c : Nat) (A : Option Addr) (p : Nat) : Prop where
  rd : Rd w' g A n c p
  grown : w.grownBy w' (some g)
theorem RdG.pick {w w1 w2 : World} {g n c p q : Nat} {A : Option Addr} (J : RdG w w1 g n c A p) (hr : Rd w2 g A n c q) (h : w1.grownBy w2 (some g)) : RdG w w2 g n c A q := ⟨hr, grown_trans J.grown h⟩
theorem RdG.below {w w1 w2 : World} {g n c p : Nat} {A : Option Addr} (J : RdG w w1 g n c A p) (h : Below w1.heap.size w1 w2) : RdG w w2 g n c A p := ⟨J.rd.below h, grown_below J.grown h⟩
def spoilL : List Bs := [[], [48], [32], [10], [45], [98, 97, 99, 107]]
set_option maxRecDepth 100000 in
set_option maxHeartbeats 3200000 in
theorem spoil_any (g n c p : Nat) (A : Option Addr) (s : Bs) (w : World) (hr : Rd w g A n c p) (hl : s.length ≤ 10000) (hp : p ≤ 90000) :
    Calls Tryd.prog 43 #[.pointer (some ⟨g, 0, none⟩), .string (bs s)] w fun e w' => ∃ t q, e = .returned (.string (bs t)) ∧ t.length ≤ s.length + 10 ∧ q ≤ p + 2 ∧ RdG w w' g n c A q := by
  have hsz := bs_size s
  have J0 : RdG w w g n c A p := ⟨hr, ⟨rfl, rfl, rfl, Nat.le_refl _, fun _ _ _ => rfl⟩⟩
  by_cases h0 : s = []
  · subst h0
    go_enter Tryd.func43, Tryd.ntmps43
    go_wp2
    go_ret
    exact ⟨[10], p, rfl, by simp, by omega, J0⟩
  · have hpos : 0 < s.length := List.length_pos_iff.2 h0
    have hd : ((s.length : Int) == 0) = false := beq_eq_false_iff_ne.2 (by omega)
    go_enter Tryd.func43, Tryd.ntmps43
    go_wp2_with fail
    refine (pick_any g n c p A (s.length : Int) w hr (by omega) (by omega) (by omega)).mono ?_
    rintro e w5 ⟨z5, rfl, z5a, z5b, r5, g5⟩
    have hw5 := r5.lt
    have J5b := J0.pick r5 g5
    have J5d := J5b.below (Below.refl w5.heap.size w5).drew
    have J5 := J5b.below ((box_below w5 #[.string { data := #[] }, .string { data := #[48] }, .string { data := #[32] }, .string { data := #[10] }, .string { data := #[45] }, .string { data := #[98, 97, 99, 107] }] 9).drew)
    clear J0 r5 g5 J5b
    obtain ⟨k, rfl⟩ := Int.eq_ofNat_of_zero_le z5a
    have hk : k < s.length := by omega
    have hk0 : (0 : Int) ≤ (k : Int) := by omega
    have hk1 : (k : Int) ≤ (s.length : Int) := by omega
    have hk2 : (k : Int) + 1 ≤ (s.length : Int) := by omega
    have hk3 : (0 : Int) ≤ (k : Int) + 1 := by omega
    have hk4 : ((k : Int) + 1).toNat = k + 1 := by omega
    have hk5 : k + 1 ≤ s.length := by omega
    have hk6 : k ≤ s.length := by omega
    have hwr : IntKind.i64.wrap ((k : Int) + 1) = (k : Int) + 1 := IntWalk.i64_in _ (by omega)
    have hex1 : (bs s).extract 0 k = bs (s.take k) := by rw [bs_extract]; simp
    have hex2 : (bs s).extract (k + 1) s.length = bs (s.drop (k + 1)) := by rw [bs_extract]; simp
    have lt1 : (s.take k).length ≤ k := by rw [List.length_take]; omega
    have lt2 : (s.drop (k + 1)).length ≤ s.length - k := by rw [List.length_drop]; omega
    go_wp2_with fail
    go_region_with (first
      | (go_at_call 42; (with_reducible refine (pick_any g n c (p + 1) A 6 _ J5.rd (by omega) (by omega) (by omega)).mono ?_); rintro e w7 ⟨z7, rfl, za, zb, r7, g7⟩; have J7 := J5.pick r7 g7; obtain ⟨m, rfl⟩ := Int.eq_ofNat_of_zero_le za; obtain ⟨x, hx, hxc⟩ := litsB_at spoilL (Nat.ne_of_gt hw5) g7 (m5 := m) (by simp [spoilL]; omega) (by simp [spoilL]); have hi0 : (0 : Int) ≤ (m : Int) := Int.natCast_nonneg _; have hi1 : (m : Int) < 6 := zb; have ha1 := add_two (P := Tryd.prog) (s.take k) x (by omega) (by omega); have ha2 := add_two (P := Tryd.prog) (s.take k ++ x) (s.drop (k + 1)) (by rw [List.length_append]; omega) (by omega); clear r7 g7 za zb)
      | (go_at_call 42; (with_reducible refine (pick_any g n c (p + 1) A 6 _ J5d.rd (by omega) (by omega) (by omega)).mono ?_); rintro e w7 ⟨z7, rfl, za, zb, r7, g7⟩; have J7 := (J5d.pick r7 g7).below (box_below w7 #[.string { data := #[] }, .string { data := #[48] }, .string { data := #[32] }, .string { data := #[10] }, .string { data := #[45] }, .string { data := #[98, 97, 99, 107] }] 9); obtain ⟨m, rfl⟩ := Int.eq_ofNat_of_zero_le za; obtain ⟨x, hx, hxc, hxd, hxe⟩ := litsB_new (W := w7) (T := 9) spoilL (m5 := m) (by simp [spoilL]; omega) (by simp [spoilL]); have hxd : (#[.string { data := #[] }, .string { data := #[48] }, .string { data := #[32] }, .string { data := #[10] }, .string { data := #[45] }, .string { data := #[98, 97, 99, 107] }] : Array Value)[m]? = some (.string (bs x)) := hxd; have hxe : ([.string { data := #[] }, .string { data := #[48] }, .string { data := #[32] }, .string { data := #[10] }, .string { data := #[45] }, .string { data := #[98, 97, 99, 107] }] : List Value)[m]? = some (.string (bs x)) := hxe; have hi0 : (0 : Int) ≤ (m : Int) := Int.natCast_nonneg _; have hi1 : (m : Int) < 6 := zb; have ha1 := add_two (P := Tryd.prog) (s.take k) x (by omega) (by omega); have ha2 := add_two (P := Tryd.prog) (s.take k ++ x) (s.drop (k + 1)) (by rw [List.length_append]; omega) (by omega); clear r7 g7 za zb))
    all_goals
      go_wp2
      go_ret
      exact ⟨_, _, rfl, by simp only [List.length_append]; omega, Nat.le_refl _, J7⟩

theorem deedT_le (a : Cn) : (deedT a).length ≤ 20 := Nat.le_trans (deedT_len a) (by decide)
set_option maxRecDepth 100000 in
set_option maxHeartbeats 1600000 in
theorem drawReadDeed_any (A : Option Addr) (n c : Nat) (w : World) (hb : Bytes w w.heap.size A n) (hn : n ≤ c) (hc : c ≤ 9223372036854775807) :
    Calls Tryd.prog 15 #[.slice A n c] w fun e w' => ∃ s : Bs, e = .returned (.string (bs s)) ∧ s.length ≤ 100 ∧ Below w.heap.size w w' := by
  go_enter Tryd.func15, Tryd.ntmps15
  go_wp2_with fail
  refine (open_any A n c _ hb hn hc).mono ?_
  rintro e w1 ⟨n', rfl, r1, b1⟩
  obtain ⟨g, hg⟩ : ∃ g, w.heap.size = g := ⟨_, rfl⟩
  rw [hg] at r1 b1
  have hgl := r1.lt
  go_wp2_with fail
  try rw [hg]
  refine (spots_any g n' c 0 A 5 0 _ r1 (by omega) (by omega) (by omega) (by omega) (by omega)).mono ?_
  rintro e w2 ⟨v, ps, q, rfl, I, hl, hq⟩
  have hnow : ∀ w', w2.grownBy w' (some g) → Reads w' w'.heap.size v ps := fun w' h => by
    refine (I.own.grown h ?_).reads
    cases hv : v.ownBlock with
    | none => exact .inl rfl
    | some k => exact .inr (fun e => by injection e with e; have := (I.own.lt k hv).1; omega)
  go_wp2_with fail
  try rw [hg]
  refine (deed_any g n' c q A ps v w2 I.rd hnow (by omega) (by omega)).mono ?_
  rintro e w3 ⟨k, x, y, q3, rfl, r3, hq3, g3⟩
  have J : RdG w1 w3 g n' c A q3 := ⟨r3, grown_trans I.grown g3⟩
  clear I hnow r3 g3
  obtain ⟨T, hT⟩ : ∃ T, deedT ((k, x), y) = T := ⟨_, rfl⟩
  have hTl : T.length ≤ 20 := by rw [← hT]; exact deedT_le _
  have HT := Lib.hid hT
  clear hT
  go_wp2_with fail
  refine (deedS_is HT.out).mono ?_
  rintro e w4 ⟨rfl, b4⟩
  replace J := J.below b4
  go_wp2_with fail
  try rw [hg]
  refine (pick_any g n' c q3 A 3 _ J.rd (by omega) (by omega) (by omega)).mono ?_
  rintro e w5 ⟨z5, rfl, z5a, z5b, r5, g5⟩
  replace J := J.pick r5 g5
  clear r5 g5 b4
  by_cases hz : z5 = 0
  · subst hz
    go_wp2_with fail
    try rw [hg]
    refine (spoil_any g n' c (q3 + 1) A T _ J.rd (by omega) (by omega)).mono ?_
    rintro e w6 ⟨t, q6, rfl, ht, hq6, J6⟩
    go_wp2
    go_ret
    refine ⟨t, rfl, by omega, ?_⟩
    rw [hg]
    exact Below.grown (Below.grown b1 J.grown (by omega) (fun k e => by injection e with e; omega)) J6.grown (by have := J.grown.size; omega) (fun k e => by injection e with e; omega)
  · have hzb : (z5 == 0) = false := beq_eq_false_iff_ne.2 hz
    go_wp2
    go_ret
    refine ⟨T, rfl, by omega, ?_⟩
    rw [hg]
    exact Below.grown b1 J.grown (by omega) (fun k e => by injection e with e; omega)

/-! ### deeds that have texts -/
theorem grown_of_belowB {w w' : World} (h : Below w.heap.size w w') (g : Nat) : w.grownBy w' (some g) := ⟨h.os, h.tape, h.output, h.size, fun k hk _ => h.block k hk⟩
theorem cell_of_block {w w' : World} {a : Addr} (h : w'.heap[a.block]? = w.heap[a.block]?) : w'.cell? a = w.cell? a := by
  unfold World.cell?
  rw [h]
/-- what writes into one old block, or into new ones -/
theorem grown_own {w3 wr w7 : World} {B : Nat} {b : Option Nat} (h : w3.grownBy wr (some B)) (k : wr.grownBy w7 b) (hb : ∀ x, b = some x → x = B ∨ w3.heap.size ≤ x) : w3.grownBy w7 (some B) :=
  ⟨k.os.trans h.os, k.tape.trans h.tape, k.output.trans h.output, Nat.le_trans h.size k.size, fun j hj hne => (k.block j (Nat.lt_of_lt_of_le hj h.size) (fun e => by
    rcases hb j (by first | exact e | exact e.symm) with e' | e'
    · exact hne (by rw [e'])
    · omega)).trans (h.block j hj hne)⟩
set_option maxRecDepth 100000 in
set_option maxHeartbeats 1600000 in
theorem written_any (g n c p : Nat) (A : Option Addr) (w : World) (hr : Rd w g A n c p) (hp : p ≤ 1000) :
    Calls Tryd.prog 46 #[.pointer (some ⟨g, 0, none⟩)] w fun e w' => ∃ u l q, e = .returned u ∧ DnInv w w' g n c A u l q ∧ l.length ≤ 5 ∧ q ≤ p + 150 := by
  have hg := hr.lt
  obtain ⟨W, hW⟩ : ∃ W, W = w.alloc (.cells #[] 24) := ⟨_, rfl⟩
  have bW : Below w.heap.size w W := by rw [hW]; exact box_below _ _ _
  have sW : w.heap.size ≤ W.heap.size := bW.size
  have o0 : COwns W w.heap.size (.slice (some ⟨w.heap.size, 0, none⟩) 0 0) [] := by rw [hW]; exact COwns.empty w w.heap.size (Nat.le_refl _)
  have lt0 : w.heap.size < W.heap.size := by rw [hW]; simp
  go_enter Tryd.func46, Tryd.ntmps46
  go_wp2_with (first | (rw [← hW]; clear hW) | fail)
  refine (spots_any g n c p A 5 0 W (hr.below bW) (by omega) (by omega) (by omega) (by omega) (by omega)).mono ?_
  rintro e w2 ⟨v, ps, q, rfl, I, hl, hq⟩
  have hnow : ∀ w', w2.grownBy w' (some g) → Reads w' w'.heap.size v ps := fun w' h => by
    refine (I.own.grown h ?_).reads
    cases hv : v.ownBlock with
    | none => exact .inl rfl
    | some k => exact .inr (fun e => by injection e with e; have := (I.own.lt k hv).1; omega)
  have o2 := o0.grown I.grown (.inr (fun e => by injection e with e; simp at e; omega))
  have g2 := grown_trans (World.grownBy.refl w (some g)) (grown_of_belowB bW g)
  have g2 := grown_trans g2 I.grown
  have r2 := I.rd
  have s2 : w.heap.size < w2.heap.size := Nat.lt_of_lt_of_le lt0 I.grown.size
  clear I o0 hr bW
  go_wp2_with fail
  refine (deeds_any g n c q A ps v w2 r2 hnow (by omega) (by omega)).mono ?_
  rintro e w3 ⟨u, L, q3, rfl, D, hL5, hq3⟩
  have o3 := o2.grown D.grown (.inr (fun e => by injection e with e; simp at e; omega))
  have g3 := grown_trans g2 D.grown
  have r3 := D.rd
  have own := D.own
  have s3 : w2.heap.size ≤ w3.heap.size := D.grown.size
  clear D hnow g2 r2 o2
  obtain ⟨AL, cL, eL, h5, h5m⟩ := own.reads.slice
  have hrd := own.reads.is
  subst eL
  obtain ⟨A5', c5', e5, _, _, _, hcell⟩ := hrd
  cases e5
  unfold maxLen at h5m
  go_wp2
  have hLb : ∀ b off, AL = some ⟨b, off, none⟩ → w2.heap.size ≤ b ∧ b < w3.heap.size := fun b off e => by
    subst e
    exact own.lt b rfl
  go_loopw [3, 5] (fun o i wr => ∃ (j : Nat) (l : List Cn), j ≤ L.length ∧ l.length ≤ j ∧ i = .int .i64 j ∧ COwns wr w.heap.size o l ∧ (∀ k, o.ownBlock = some k → k = w.heap.size ∨ w3.heap.size ≤ k) ∧ w3.grownBy wr (some w.heap.size)) (fun _ i _ => L.length - (intOf i).toNat)
  case atStart => exact ⟨0, [], Nat.zero_le _, Nat.le_refl _, rfl, o3, fun k e => .inl (by injection e with e; exact e.symm), World.grownBy.refl _ _⟩
  case round =>
    obtain ⟨j, l, hj, hlj, rfl, hown, hblk, hgr⟩ := hrel
    by_cases hlt : j < L.length
    · obtain ⟨⟨⟨k, x⟩, y⟩, hxy⟩ : ∃ a, L[j]? = some a := ⟨_, List.getElem?_eq_getElem hlt⟩
      obtain ⟨b, off, rfl, hb, hat⟩ := hcell (by omega)
      obtain ⟨hb1, hb2⟩ := hLb b off rfl
      obtain ⟨a0, a1, a2⟩ := hat j k x y hxy
      have hblkb := hgr.block b hb2 (fun e => by injection e with e; omega)
      have d0 := (cell_of_block (a := ⟨b, off + j * 3, none⟩) hblkb).trans a0
      have d1 := (cell_of_block (a := ⟨b, off + j * 3 + 1, none⟩) hblkb).trans a1
      have d2 := (cell_of_block (a := ⟨b, off + j * 3 + 2, none⟩) hblkb).trans a2
      have hbr : b < wr.heap.size := Nat.lt_of_lt_of_le hb2 hgr.size
      have hm3 : (0 : Int) ≤ (j : Int) := Int.natCast_nonneg _
      have hm4 : (j : Int) < (L.length : Int) := by omega
      obtain ⟨T, hT⟩ : ∃ T, deedT ((k, x), y) = T := ⟨_, rfl⟩
      have HT := Lib.hid hT
      have hTt : (bs T).toList = T := ByteArray.toList_mk T
      clear hT hxy
      rcases hq : (T == []) with _ | _
      · go_wp2_with fail
        refine (deedS_is HT.out).mono ?_
        rintro e w4 ⟨rfl, b4⟩
        clear d0 d1 d2
        have d0 := (b4.cell (p := ⟨b, off + j * 3, none⟩) hbr).trans ((cell_of_block (a := ⟨b, off + j * 3, none⟩) hblkb).trans a0)
        have d1 := (b4.cell (p := ⟨b, off + j * 3 + 1, none⟩) hbr).trans ((cell_of_block (a := ⟨b, off + j * 3 + 1, none⟩) hblkb).trans a1)
        have d2 := (b4.cell (p := ⟨b, off + j * 3 + 2, none⟩) hbr).trans ((cell_of_block (a := ⟨b, off + j * 3 + 2, none⟩) hblkb).trans a2)
        have bY := box_below w4 #[.int .i64 k, .int .i64 x, .int .i64 y] 24
        have own4 := (hown.below b4).below bY
        have gr4 := grown_below hgr (below_step b4 bY)
        have sz4 : w.heap.size ≤ (w4.alloc (.cells #[.int .i64 k, .int .i64 x, .int .i64 y] 24)).heap.size := Nat.le_trans (by omega) gr4.size
        go_wp2_with (first | (at_builtin; refine wpList_append_cents (m := [((k, x), y)]) own4 (CReads.one (g := w4.heap.size) (by simp [go_sem]) (by simp [go_sem]) (by simp [go_sem])) (by simp only [List.length_cons, List.length_nil]; omega) sz4 rfl (.tmp 23) (.tmp 28) rfl rfl rfl ?_) | fail)
        intro v7 w7 o7 g7 hv7
        have gr7 := grown_own gr4 g7 hblk
        have hb7 : ∀ k, v7.ownBlock = some k → k = w.heap.size ∨ w3.heap.size ≤ k := fun k e => by
          rcases hv7 with e1 | e1
          · exact hblk k (e1.symm.trans e)
          · have h2 := Option.some.inj (e1.symm.trans e)
            have h3 := gr4.size
            rw [World.size_alloc] at h3
            exact .inr (by omega)
        clear own4 g7 hv7 gr4 sz4 bY
        go_wp2
        go_roundw
        case rel => exact ⟨j + 1, l ++ [((k, x), y)], by omega, by simp; omega, by go_num, o7, hb7, gr7⟩
        case measure => simp [intOf]; omega
      · go_wp2_with fail
        refine (deedS_is HT.out).mono ?_
        rintro e w4 ⟨rfl, b4⟩
        go_wp2
        go_roundw
        case rel => exact ⟨j + 1, l, by omega, by omega, by go_num, hown.below b4, hblk, grown_below hgr b4⟩
        case measure => simp [intOf]; omega
    · have hjL : j = L.length := by omega
      have HJ := Lib.hid hjL
      clear hjL
      obtain ⟨Ao, co, e3, _, _⟩ := hown.reads.slice
      subst e3
      go_wp2
      go_ret
      refine ⟨_, l, q3, rfl, ⟨hown, ?_, ?_⟩, by omega, by omega⟩
      · exact r3.app hgr (fun k e => by injection e with e; omega)
      · exact ⟨hgr.os.trans g3.os, hgr.tape.trans g3.tape, hgr.output.trans g3.output, Nat.le_trans g3.size hgr.size, fun k hk hne => (hgr.block k (by omega) (fun e => by injection e with e; omega)).trans (g3.block k hk hne)⟩
set_option maxRecDepth 100000 in
set_option maxHeartbeats 1600000 in
theorem drawJour_any (A : Option Addr) (n c : Nat) (w : World) (hb : Bytes w w.heap.size A n) (hn : n ≤ c) (hc : c ≤ 9223372036854775807) :
    Calls Tryd.prog 17 #[.slice A n c] w fun e w' => ∃ u l, e = .returned u ∧ CReads w' w'.heap.size u l ∧ l.length ≤ 6 ∧ Below w.heap.size w w' := by
  go_enter Tryd.func17, Tryd.ntmps17
  go_wp2_with fail
  refine (open_any A n c _ hb hn hc).mono ?_
  rintro e w1 ⟨n', rfl, r1, b1⟩
  obtain ⟨g, hg⟩ : ∃ g, w.heap.size = g := ⟨_, rfl⟩
  rw [hg] at r1 b1
  have hgl := r1.lt
  go_wp2_with fail
  try rw [hg]
  refine (written_any g n' c 0 A w1 r1 (by omega)).mono ?_
  rintro e w2 ⟨u, l, q, rfl, D, hl, hq⟩
  go_wp2_with fail
  try rw [hg]
  refine (odd_any g n' c q A 12 _ D.rd (by omega) (by omega) (by omega)).mono ?_
  rintro e w3 ⟨z, q3, rfl, hq3, r3, g3⟩
  have I := D.pick hgl r3 g3
  have own := I.own
  have s3 : w1.heap.size ≤ w3.heap.size := I.grown.size
  have bb : Below g w w3 := Below.grown b1 I.grown (by omega) (fun k e => by injection e with e; omega)
  clear D r3 g3 I
  cases z with
  | false =>
    obtain ⟨Au, cu, e3, _, _⟩ := own.reads.slice
    subst e3
    go_wp2
    go_ret
    exact ⟨_, l, rfl, own.reads, by omega, by rw [hg]; exact bb⟩
  | true =>
    have bY := box_below w3 #[.int .i64 9, .int .i64 0, .int .i64 0] 24
    have own4 := own.below bY
    have bb4 := bb.trans (bY.mono (by omega))
    go_wp2_with (first | (at_builtin; refine wpList_append_cents (m := [((9, 0), 0)]) own4 (CReads.one (g := w3.heap.size) (by simp [go_sem]) (by simp [go_sem]) (by simp [go_sem])) (by simp only [List.length_cons, List.length_nil]; omega) (by simp only [World.size_alloc]; omega) rfl (.tmp 11) (.tmp 13) rfl rfl rfl ?_) | fail)
    intro v7 w7 o7 g7 hv7
    have b7 : Below g w w7 := Below.grown bb4 g7 (by have := bb4.size; omega) (fun k e => by have := (own4.lt k e).1; omega)
    obtain ⟨Au, cu, e3, _, _⟩ := o7.reads.slice
    subst e3
    go_wp2
    go_ret
    exact ⟨_, l ++ [((9, 0), 0)], rfl, o7.reads, by simp; omega, by rw [hg]; exact b7⟩
end Go.Proofs.YtpdnakiilhohdaaDoor
