/- What the draws of chapter 11 hand back. No conditions but those typed. -/
import Derived.Test.YtjncnjcpcmpmcaaDoorDraws1
import Derived.Test.YtjncnjcpcmpmcaaDoorTextO
import Derived.Test.YtjncnjcpcmpmcaaDoorLongS
namespace Go.Proofs.YtjncnjcpcmpmcaaDoor
open Go.RowKit Go.Sort

theorem drawTextOf_any (A : Option Addr) (n c : Nat) (w : World) (hb : Bytes w w.heap.size A n) (hn : n ≤ c) (hc : c ≤ 9223372036854775807) :
    Calls Tryd.prog 11 #[.slice A n c] w fun e w' => ∃ v ps, e = .returned v ∧ Drawn w w' v ps 10 := by
  go_enter Tryd.func11, Tryd.ntmps11
  go_wp2_with fail
  refine (open_any A n c _ hb hn hc).mono ?_
  rintro e w1 ⟨n', rfl, r1, b1⟩
  go_wp2_with fail
  refine (spots_any _ n' c 0 A 9 9 _ r1 (by omega) (by omega) (by omega) (by omega) (by omega)).mono ?_
  rintro e w2 ⟨v, ps, q, rfl, I, hl, _⟩
  go_wp2
  go_ret
  exact ⟨v, ps, rfl, I.own.base b1.size, I.small, hl, Below.of_grown b1 I.grown (Nat.le_refl _)⟩

theorem lit_cell {w : World} {cs : Array Value} {T : TypeId} {k : Nat} {v : Value} (h : cs[k]? = some v) : (w.alloc (.cells cs T)).cell? ⟨w.heap.size, k, none⟩ = some v := by
  have e : (w.alloc (.cells cs T)).heap[w.heap.size]? = some (.cells cs T) := heap_alloc_new w _
  rw [cell_of_row _ _ _ _ _ _ e]; exact h
theorem grown_alloc2 {w wr : World} {g : Nat} (h : w.grownBy wr (some g)) (o : Obj) : w.grownBy (wr.alloc o) (some g) := grown_below h ((Below.refl _ _).alloc (Nat.le_refl _) o)
theorem Rd.alloc2 {w : World} {g n c p : Nat} {A : Option Addr} (h : Rd w g A n c p) (o : Obj) : Rd (w.alloc o) g A n c p := h.below ((Below.refl _ _).alloc (Nat.le_refl _) o)
set_option maxRecDepth 100000 in
set_option maxHeartbeats 3200000 in
theorem signs_any (g n c p : Nat) (A : Option Addr) (N : Int) (w : World) (hr : Rd w g A n c p) (h1 : 0 ≤ N) (h2 : N ≤ 1000) (hp : p ≤ 60000) :
    Calls Tryd.prog 54 #[.pointer (some ⟨g, 0, none⟩), .int .i64 N] w fun e w' => ∃ (l : Bs) (q : Nat), e = .returned (.string (bs l)) ∧ l.length ≤ 100 ∧ Rd w' g A n c q ∧ q ≤ p + 30 ∧ w.grownBy w' (some g) := by
  have hg := hr.lt
  go_enter Tryd.func54, Tryd.ntmps54
  go_wp2_with fail
  refine (pick_any g n c p A 6 _ hr (by omega) (by omega) (by omega)).mono ?_
  rintro e w1 ⟨z1, rfl, z1a, z1b, r1, g1⟩
  clear hr
  obtain ⟨k1, hk1⟩ : ∃ k : Nat, (k : Int) = 1 + z1 := ⟨(1 + z1).toNat, by omega⟩
  go_wp2_with fail
  rw [← hk1]
  go_loopw [5, 6] (fun s i wr => ∃ (o : Bs) (k q : Nat), s = .string (bs o) ∧ i = .int .i64 (k : Int) ∧ k ≤ 6 ∧ o.length + 4 * k ≤ 24 ∧ Rd wr g A n c q ∧ q + k ≤ p + 7 ∧ w.grownBy wr (some g)) (fun _ i _ => (intOf i).toNat)
  case atStart => exact ⟨[], k1, p + 1, rfl, rfl, by omega, by simp; omega, r1, by omega, g1⟩
  case round =>
    clear r1 g1 hk1 z1a z1b
    obtain ⟨o, k, q, rfl, rfl, hk6, hol, hrd, hq, hgr⟩ := hrel
    by_cases hk : 0 < k
    · have hd : decide ((0 : Int) < (k : Int)) = true := decide_eq_true (by omega)
      go_wp2_with fail
      refine (pick_any g n c q A 4 _ hrd (by omega) (by omega) (by omega)).mono ?_
      rintro e w2 ⟨z2, rfl, z2a, z2b, r2, gx⟩
      have g2 := grown_trans hgr gx
      clear hrd hgr gx
      obtain ⟨m, hm⟩ : ∃ k : Nat, (k : Int) = 1 + z2 := ⟨(1 + z2).toNat, by omega⟩
      have hm4 : m ≤ 4 := by omega
      have hm0 : 0 ≤ m := by omega
      generalize wr = wo at *
      go_wp2_with fail
      rw [← hm]
      go_loopw [5, 7] (fun s i wr => ∃ (o' : Bs) (j : Nat), s = .string (bs o') ∧ i = .int .i64 (j : Int) ∧ j ≤ 4 ∧ o'.length + j ≤ o.length + 4 ∧ Rd wr g A n c (q + 1) ∧ w.grownBy wr (some g)) (fun _ i _ => (intOf i).toNat)
      case atStart => exact ⟨o, m, rfl, rfl, hm4, by omega, r2, g2⟩
      case round =>
        clear r2 g2 hm z2a z2b
        obtain ⟨o', j, rfl, rfl, hj4, hjl, hrd, hgr⟩ := hrel
        by_cases hj : 0 < j
        · have hdj : decide ((0 : Int) < (j : Int)) = true := decide_eq_true (by omega)
          have c0 := lit_cell (w := wr) (cs := #[.string { data := #[35] }, .string { data := #[46] }]) (T := 9) (k := 0) rfl
          have c1 := lit_cell (w := wr) (cs := #[.string { data := #[35] }, .string { data := #[46] }]) (T := 9) (k := 1) rfl
          have ha := add_lit (P := Tryd.prog) o' 35 (by omega)
          have hb := add_lit (P := Tryd.prog) o' 46 (by omega)
          have r3 := hrd.alloc2 (.cells #[.string { data := #[35] }, .string { data := #[46] }] 9)
          have g3 := grown_alloc2 hgr (.cells #[.string { data := #[35] }, .string { data := #[46] }] 9)
          rcases Nat.mod_two_eq_zero_or_one k with ek | ek
          · have e1 : (k : Int) % 2 = 0 := by omega
            have e2 : Int.tmod (k : Int) 2 = 0 := by rw [Int.tmod_eq_emod_of_nonneg (by omega)]; exact e1
            clear hrd hgr
            go_wp2
            go_roundw
            case rel => exact ⟨o' ++ [35], j - 1, rfl, by go_num, by omega, by simp; omega, r3, g3⟩
            case measure => simp [intOf]; omega
          · have e1 : (k : Int) % 2 = 1 := by omega
            have e2 : Int.tmod (k : Int) 2 = 1 := by rw [Int.tmod_eq_emod_of_nonneg (by omega)]; exact e1
            clear hrd hgr
            go_wp2
            go_roundw
            case rel => exact ⟨o' ++ [46], j - 1, rfl, by go_num, by omega, by simp; omega, r3, g3⟩
            case measure => simp [intOf]; omega
        · have hdj : decide ((0 : Int) < (j : Int)) = false := decide_eq_false (by omega)
          go_wp2
          go_roundw
          case rel => exact ⟨o', k - 1, q + 1, rfl, by go_num, by omega, by omega, hrd, by omega, hgr⟩
          case measure => simp [intOf]; omega
    · have hd : decide ((0 : Int) < (k : Int)) = false := decide_eq_false (by omega)
      go_wp2_with fail
      refine (odd_any g n c q A N _ hrd (by omega) (by omega) (by omega)).mono ?_
      rintro e w3 ⟨zo, q3, rfl, hq3, r3, g3⟩
      have g3 := grown_trans hgr g3
      clear hrd hgr
      cases zo with
      | false =>
        go_wp2
        go_ret
        exact ⟨o, q3, rfl, by omega, r3, by omega, g3⟩
      | true =>
        obtain ⟨O, hO⟩ : ∃ O : Obj, O = .cells #[.string { data := #[] }, .string { data := #[35, 120] }, .string { data := ([35, 35, 35, 35, 35, 35, 35, 35, 35, 35, 46, 35, 35, 35, 35, 35, 35, 35, 35, 35, 35, 46, 35, 35, 35, 35, 35, 35, 35, 35, 35, 35].append [46, 35, 35, 35, 35, 35, 35, 35, 35, 35, 35, 46, 35, 35, 35, 35, 35, 35, 35, 35, 35, 35, 46, 35, 35, 35, 35, 35, 35, 35, 35, 35, 35]).toArray }] 9 := ⟨_, rfl⟩
        have hl3 := r3.lt
        have r4 := r3.alloc2 O
        have g4 := grown_alloc2 g3 O
        subst hO
        have c0 := heap_alloc_new w3 (.cells #[.string { data := #[] }, .string { data := #[35, 120] }, .string { data := ([35, 35, 35, 35, 35, 35, 35, 35, 35, 35, 46, 35, 35, 35, 35, 35, 35, 35, 35, 35, 35, 46, 35, 35, 35, 35, 35, 35, 35, 35, 35, 35].append [46, 35, 35, 35, 35, 35, 35, 35, 35, 35, 35, 46, 35, 35, 35, 35, 35, 35, 35, 35, 35, 35, 46, 35, 35, 35, 35, 35, 35, 35, 35, 35, 35]).toArray }] 9)
        clear r3 g3
        go_wp2_with fail
        refine (pick_any g n c q3 A 3 _ r4 (by omega) (by omega) (by omega)).mono ?_
        rintro e w5 ⟨z5, rfl, z5a, z5b, r5, g5⟩
        have cn := (g5.block w3.heap.size (by simp) (fun e => by injection e with e; omega)).trans c0
        have k0 := cell_of_row w5 _ 0 _ _ _ cn
        have k1 := cell_of_row w5 _ 1 _ _ _ cn
        have k2 := cell_of_row w5 _ 2 _ _ _ cn
        simp only [List.getElem?_toArray, List.getElem?_cons_zero, List.getElem?_cons_succ] at k0 k1 k2
        have g5 := grown_trans g4 g5
        clear cn c0 r4 g4
        have hz : z5 = 0 ∨ z5 = 1 ∨ z5 = 2 := by omega
        rcases hz with rfl | rfl | rfl
        · go_wp2
          go_ret
          exact ⟨[], q3 + 1, rfl, by simp, r5, by omega, g5⟩
        · go_wp2
          go_ret
          exact ⟨[35, 120], q3 + 1, rfl, by simp, r5, by omega, g5⟩
        · go_wp2
          go_ret
          exact ⟨_, q3 + 1, rfl, by decide, r5, by omega, g5⟩

/-- a text is handed back, in a world that keeps what was -/
def GivesText (m : Nat) (w : World) (e : Ending) (w' : World) : Prop := ∃ l : Bs, e = .returned (.string (bs l)) ∧ l.length ≤ m ∧ Below w.heap.size w w'
structure TInv (w wr : World) (g n c : Nat) (A : Option Addr) (q : Nat) : Prop where
  rd : Rd wr g A n c q
  below : Below w.heap.size w wr
  le : w.heap.size ≤ g
section
variable {w wr w' : World} {g n c q : Nat} {A : Option Addr}
theorem TInv.pick {p : Nat} (J : TInv w wr g n c A q) (hr : Rd w' g A n c p) (h : wr.grownBy w' (some g)) : TInv w w' g n c A p := ⟨hr, Below.of_grown J.below h J.le, J.le⟩
theorem TInv.alloc (J : TInv w wr g n c A q) (o : Obj) : TInv w (wr.alloc o) g n c A q := ⟨J.rd.alloc2 o, J.below.alloc J.below.size o, J.le⟩
theorem TInv.drew (J : TInv w wr g n c A q) : TInv w wr.drew g n c A q := ⟨J.rd.below (Below.refl _ _).drew, J.below.drew, J.le⟩
theorem TInv.step (J : TInv w wr g n c A q) (h : Below wr.heap.size wr w') : TInv w w' g n c A q := ⟨J.rd.below h, below_step J.below h, J.le⟩
end
set_option maxRecDepth 100000 in
theorem drawShortRow_any (A : Option Addr) (n c : Nat) (w : World) (hb : Bytes w w.heap.size A n) (hn : n ≤ c) (hc : c ≤ 9223372036854775807) :
    Calls Tryd.prog 23 #[.slice A n c] w (GivesText 100 w) := by
  go_enter Tryd.func23, Tryd.ntmps23
  go_wp2_with fail
  refine (open_any A n c _ hb hn hc).mono ?_
  rintro e w1 ⟨n', rfl, r1, b1⟩
  go_wp2_with fail
  refine (signs_any _ n' c 0 A 6 _ r1 (by omega) (by omega) (by omega)).mono ?_
  rintro e w2 ⟨l, q, rfl, hl, r2, hq, g2⟩
  go_wp2
  go_ret
  exact ⟨l, rfl, hl, Below.of_grown b1 g2 (Nat.le_refl _)⟩
theorem short_le {l : Bs} (h : l.length ≤ 100) : (shortR l).length ≤ 100 := by
  rcases hk : rowOk l with _ | _
  · rw [shortR_no hk]; simp
  · exact Nat.le_trans (shortR_length hk) h
theorem lits_of {w : World} {g m : Nat} {T : TypeId} (ls : List Bs) (c : w.heap[g]? = some (.cells (ls.map strV).toArray T)) (hm : m < ls.length) (hx : ∀ l ∈ ls, l.length ≤ 10) :
    ∃ x : Bs, x.length ≤ 10 ∧ w.cell? ⟨g, m, none⟩ = some (.string (bs x)) := by
  refine ⟨ls[m], hx _ (List.getElem_mem hm), ?_⟩
  rw [cell_of_row w _ m _ _ _ c]
  simp [hm]
theorem lits_at {W w5 : World} {g m5 : Nat} {T : TypeId} (ls : List Bs) (hr : W.heap.size ≠ g) (h : (W.alloc (.cells (ls.map strV).toArray T)).drew.grownBy w5 (some g)) (hm : m5 < ls.length) (hx : ∀ l ∈ ls, l.length ≤ 10) :
    ∃ x : Bs, x.length ≤ 10 ∧ w5.cell? ⟨W.heap.size, m5, none⟩ = some (.string (bs x)) :=
  lits_of ls ((h.block W.heap.size (show W.heap.size < (W.alloc (.cells (ls.map strV).toArray T)).heap.size by simp) (fun e => by injection e with e; exact hr e)).trans (heap_alloc_new W (.cells (ls.map strV).toArray T))) hm hx
theorem lits_new {W : World} {m5 : Nat} {T : TypeId} (ls : List Bs) (hm : m5 < ls.length) (hx : ∀ l ∈ ls, l.length ≤ 10) :
    ∃ x : Bs, x.length ≤ 10 ∧ (W.alloc (.cells (ls.map strV).toArray T)).cell? ⟨W.heap.size, m5, none⟩ = some (.string (bs x)) ∧ (ls.map strV).toArray[m5]? = some (.string (bs x)) ∧ (ls.map strV)[m5]? = some (.string (bs x)) :=
  ⟨ls[m5], hx _ (List.getElem_mem hm), by rw [cell_of_row _ _ m5 _ _ _ (heap_alloc_new W (.cells (ls.map strV).toArray T))]; simp [hm], by simp [hm], by simp [hm]⟩
set_option maxRecDepth 100000 in
set_option maxHeartbeats 3200000 in
theorem drawLongRow_any (A : Option Addr) (n c : Nat) (w : World) (hb : Bytes w w.heap.size A n) (hn : n ≤ c) (hc : c ≤ 9223372036854775807) :
    Calls Tryd.prog 27 #[.slice A n c] w (GivesText 900 w) := by
  go_enter Tryd.func27, Tryd.ntmps27
  go_wp2_with fail
  refine (open_any A n c _ hb hn hc).mono ?_
  rintro e w1 ⟨n', rfl, r1, b1⟩
  obtain ⟨g, hg⟩ : ∃ g, w.heap.size = g := ⟨_, rfl⟩
  have J1 : TInv w w1 g n' c A 0 := ⟨hg ▸ r1, b1, by omega⟩
  have hsz1 := r1.lt
  clear r1 b1
  go_wp2_with fail
  clear hg
  refine (signs_any _ n' c 0 A 12 _ J1.rd (by omega) (by omega) (by omega)).mono ?_
  rintro e w2 ⟨l, q, rfl, hl, r2, hq, g2⟩
  have J2 := J1.pick r2 g2
  clear J1 r2 g2
  obtain ⟨s, hs⟩ : ∃ s, shortR l = s := ⟨_, rfl⟩
  have hsl := short_le hl
  rw [hs] at hsl
  go_wp2_with fail
  refine (shortS_lit (by omega) hs _).mono ?_
  rintro e w3 ⟨rfl, b3⟩
  have J3 := J2.step b3
  clear J2 b3 hs hl
  have hsz := bs_size s
  go_wp2_with fail
  refine (pick_any g n' c q A 3 _ J3.rd (by omega) (by omega) (by omega)).mono ?_
  rintro e w4 ⟨z4, rfl, z4a, z4b, r4, g4⟩
  have J4 := J3.pick r4 g4
  clear J3 r4 g4
  by_cases hz : z4 = 0
  · subst hz
    by_cases h0 : 0 < s.length
    · have hd : decide ((0 : Int) < (s.length : Int)) = true := decide_eq_true (by omega)
      go_wp2_with fail
      refine (pick_any g n' c (q + 1) A (s.length : Int) _ J4.rd (by omega) (by omega) (by omega)).mono ?_
      rintro e w5 ⟨z5, rfl, z5a, z5b, r5, g5⟩
      have hw5 := r5.lt
      have J5d := (J4.pick r5 g5).drew
      have J5 := ((J4.pick r5 g5).alloc (.cells #[.string { data := #[] }, .string { data := #[35] }, .string { data := #[46] }, .string { data := #[49] }, .string { data := #[48] }, .string { data := #[54, 50, 35] }] 9)).drew
      clear J4 r5 g5
      obtain ⟨k, rfl⟩ := Int.eq_ofNat_of_zero_le z5a
      have hk : k < s.length := by omega
      have hk0 : (0 : Int) ≤ (k : Int) := by omega
      have hk1 : (k : Int) ≤ (s.length : Int) := by omega
      have hk2 : (k : Int) + 1 ≤ (s.length : Int) := by omega
      have hk3 : (0 : Int) ≤ (k : Int) + 1 := by omega
      have hk4 : ((k : Int) + 1).toNat = k + 1 := by omega
      have hk5 : k + 1 ≤ s.length := by omega
      have hk6 : k ≤ s.length := by omega
      have hwr : IntKind.i64.wrap ((k : Int) + 1) = (k : Int) + 1 := IntWalk.i64_in _ (by omega)
      have hex1 : (bs s).extract 0 k = bs (s.take k) := by rw [bs_extract]; simp
      have hex2 : (bs s).extract (k + 1) s.length = bs (s.drop (k + 1)) := by rw [bs_extract]; simp
      have lt1 : (s.take k).length ≤ 100 := by rw [List.length_take]; omega
      have lt2 : (s.drop (k + 1)).length ≤ 100 := by rw [List.length_drop]; omega
      go_wp2_with fail
      go_region_with (first
        | (go_at_call 50; (with_reducible refine (pick_any g n' c (q + 1 + 1) A 6 _ J5.rd (by omega) (by omega) (by omega)).mono ?_); rintro e w7 ⟨z7, rfl, za, zb, r7, g7⟩; have J7 := J5.pick r7 g7; obtain ⟨m, rfl⟩ := Int.eq_ofNat_of_zero_le za; obtain ⟨x, hx, hxc⟩ := lits_at [[], [35], [46], [49], [48], [54, 50, 35]] (Nat.ne_of_gt hw5) g7 (m5 := m) (by simp; omega) (by simp); have hi0 : (0 : Int) ≤ (m : Int) := Int.natCast_nonneg _; have hi1 : (m : Int) < 6 := zb; have ha1 := add_two (P := Tryd.prog) (s.take k) x (by omega) (by omega); have ha2 := add_two (P := Tryd.prog) (s.take k ++ x) (s.drop (k + 1)) (by rw [List.length_append]; omega) (by omega); clear r7 g7 za zb)
        | (go_at_call 50; (with_reducible refine (pick_any g n' c (q + 1 + 1) A 6 _ J5d.rd (by omega) (by omega) (by omega)).mono ?_); rintro e w7 ⟨z7, rfl, za, zb, r7, g7⟩; have J7 := (J5d.pick r7 g7).alloc (.cells #[.string { data := #[] }, .string { data := #[35] }, .string { data := #[46] }, .string { data := #[49] }, .string { data := #[48] }, .string { data := #[54, 50, 35] }] 9); obtain ⟨m, rfl⟩ := Int.eq_ofNat_of_zero_le za; obtain ⟨x, hx, hxc, hxd, hxe⟩ := lits_new (W := w7) (T := 9) [[], [35], [46], [49], [48], [54, 50, 35]] (m5 := m) (by simp; omega) (by simp); have hxd : (#[.string { data := #[] }, .string { data := #[35] }, .string { data := #[46] }, .string { data := #[49] }, .string { data := #[48] }, .string { data := #[54, 50, 35] }] : Array Value)[m]? = some (.string (bs x)) := hxd; have hxe : ([.string { data := #[] }, .string { data := #[35] }, .string { data := #[46] }, .string { data := #[49] }, .string { data := #[48] }, .string { data := #[54, 50, 35] }] : List Value)[m]? = some (.string (bs x)) := hxe; have hi0 : (0 : Int) ≤ (m : Int) := Int.natCast_nonneg _; have hi1 : (m : Int) < 6 := zb; have ha1 := add_two (P := Tryd.prog) (s.take k) x (by omega) (by omega); have ha2 := add_two (P := Tryd.prog) (s.take k ++ x) (s.drop (k + 1)) (by rw [List.length_append]; omega) (by omega); clear r7 g7 za zb))
      all_goals
        go_wp2
        go_ret
        exact ⟨_, rfl, by simp only [List.length_append]; omega, J7.below⟩
    · have hd : decide ((0 : Int) < (s.length : Int)) = false := decide_eq_false (by omega)
      go_wp2
      go_ret
      exact ⟨s, rfl, by omega, J4.below⟩
  · have hzb : (z4 == 0) = false := beq_eq_false_iff_ne.2 hz
    go_wp2
    go_ret
    exact ⟨s, rfl, by omega, J4.below⟩
theorem textT_le {p : List Sp} : (textT p).length ≤ 4000 := by
  rcases hp : picB p with _ | _
  · rw [textT_no hp]; simp
  · by_cases h0 : p = []
    · subst h0; rw [textT_nil]; simp
    · rw [textT_yes hp h0]
      obtain ⟨b1, b2⟩ := box_in hp h0
      obtain ⟨r1, r2⟩ := rowsT_bound hp h0
      have h1 := numB_length (n := (boxL p).1.1) (by omega)
      have h2 := numB_length (n := (boxL p).1.2) (by omega)
      have h3 := joinB_length (c := 47) r2
      simp only [List.length_append, List.length_cons]
      omega
set_option maxRecDepth 100000 in
set_option maxHeartbeats 3200000 in
theorem drawReadText_any (A : Option Addr) (n c : Nat) (w : World) (hb : Bytes w w.heap.size A n) (hn : n ≤ c) (hc : c ≤ 9223372036854775807) :
    Calls Tryd.prog 21 #[.slice A n c] w (GivesText 9000 w) := by
  go_enter Tryd.func21, Tryd.ntmps21
  go_wp2_with fail
  refine (open_any A n c _ hb hn hc).mono ?_
  rintro e w1 ⟨n', rfl, r1, b1⟩
  obtain ⟨g, hg⟩ : ∃ g, w.heap.size = g := ⟨_, rfl⟩
  have J1 : TInv w w1 g n' c A 0 := ⟨hg ▸ r1, b1, by omega⟩
  have hsz1 := r1.lt
  clear r1 b1
  go_wp2_with fail
  clear hg
  refine (spots_any _ n' c 0 A 9 0 _ J1.rd (by omega) (by omega) (by omega) (by omega) (by omega)).mono ?_
  rintro e w2 ⟨v, ps, q, rfl, I, _, hq⟩
  have J2 := J1.pick I.rd I.grown
  obtain ⟨s, hs⟩ : ∃ s, textT ps = s := ⟨_, rfl⟩
  have hsl := textT_le (p := ps)
  rw [hs] at hsl
  have cT := fun W (hW : Below w2.heap.size w2 W) => textS_lit (I.own.reads.kept hW) hs
  obtain ⟨Av, cv, rfl, _, _⟩ := I.own.reads.slice
  clear J1 I
  go_wp2_with fail
  refine (cT _ (Below.refl _ _)).mono ?_
  rintro e w3 ⟨rfl, b3⟩
  have J3 := J2.step b3
  clear J2 b3 hs cT
  have hsz := bs_size s
  go_wp2_with fail
  refine (pick_any g n' c q A 3 _ J3.rd (by omega) (by omega) (by omega)).mono ?_
  rintro e w4 ⟨z4, rfl, z4a, z4b, r4, g4⟩
  have J4 := J3.pick r4 g4
  clear J3 r4 g4
  by_cases hz : z4 = 0
  · subst hz
    by_cases h0 : 0 < s.length
    · have hd : decide ((0 : Int) < (s.length : Int)) = true := decide_eq_true (by omega)
      go_wp2_with fail
      refine (pick_any g n' c (q + 1) A (s.length : Int) _ J4.rd (by omega) (by omega) (by omega)).mono ?_
      rintro e w5 ⟨z5, rfl, z5a, z5b, r5, g5⟩
      have hw5 := r5.lt
      have J5d := (J4.pick r5 g5).drew
      have J5 := ((J4.pick r5 g5).alloc (.cells #[.string { data := #[] }, .string { data := #[35] }, .string { data := #[46] }, .string { data := #[47] }, .string { data := #[48] }, .string { data := #[58] }, .string { data := #[45] }] 9)).drew
      clear J4 r5 g5
      obtain ⟨k, rfl⟩ := Int.eq_ofNat_of_zero_le z5a
      have hk : k < s.length := by omega
      have hk0 : (0 : Int) ≤ (k : Int) := by omega
      have hk1 : (k : Int) ≤ (s.length : Int) := by omega
      have hk2 : (k : Int) + 1 ≤ (s.length : Int) := by omega
      have hk3 : (0 : Int) ≤ (k : Int) + 1 := by omega
      have hk4 : ((k : Int) + 1).toNat = k + 1 := by omega
      have hk5 : k + 1 ≤ s.length := by omega
      have hk6 : k ≤ s.length := by omega
      have hwr : IntKind.i64.wrap ((k : Int) + 1) = (k : Int) + 1 := IntWalk.i64_in _ (by omega)
      have hex1 : (bs s).extract 0 k = bs (s.take k) := by rw [bs_extract]; simp
      have hex2 : (bs s).extract (k + 1) s.length = bs (s.drop (k + 1)) := by rw [bs_extract]; simp
      have lt1 : (s.take k).length ≤ 4000 := by rw [List.length_take]; omega
      have lt2 : (s.drop (k + 1)).length ≤ 4000 := by rw [List.length_drop]; omega
      go_wp2_with fail
      go_region_with (first
        | (go_at_call 50; (with_reducible refine (pick_any g n' c (q + 1 + 1) A 7 _ J5.rd (by omega) (by omega) (by omega)).mono ?_); rintro e w7 ⟨z7, rfl, za, zb, r7, g7⟩; have J7 := J5.pick r7 g7; obtain ⟨m, rfl⟩ := Int.eq_ofNat_of_zero_le za; obtain ⟨x, hx, hxc⟩ := lits_at [[], [35], [46], [47], [48], [58], [45]] (Nat.ne_of_gt hw5) g7 (m5 := m) (by simp; omega) (by simp); have hi0 : (0 : Int) ≤ (m : Int) := Int.natCast_nonneg _; have hi1 : (m : Int) < 7 := zb; have ha1 := add_two (P := Tryd.prog) (s.take k) x (by omega) (by omega); have ha2 := add_two (P := Tryd.prog) (s.take k ++ x) (s.drop (k + 1)) (by rw [List.length_append]; omega) (by omega); clear r7 g7 za zb)
        | (go_at_call 50; (with_reducible refine (pick_any g n' c (q + 1 + 1) A 7 _ J5d.rd (by omega) (by omega) (by omega)).mono ?_); rintro e w7 ⟨z7, rfl, za, zb, r7, g7⟩; have J7 := (J5d.pick r7 g7).alloc (.cells #[.string { data := #[] }, .string { data := #[35] }, .string { data := #[46] }, .string { data := #[47] }, .string { data := #[48] }, .string { data := #[58] }, .string { data := #[45] }] 9); obtain ⟨m, rfl⟩ := Int.eq_ofNat_of_zero_le za; obtain ⟨x, hx, hxc, hxd, hxe⟩ := lits_new (W := w7) (T := 9) [[], [35], [46], [47], [48], [58], [45]] (m5 := m) (by simp; omega) (by simp); have hxd : (#[.string { data := #[] }, .string { data := #[35] }, .string { data := #[46] }, .string { data := #[47] }, .string { data := #[48] }, .string { data := #[58] }, .string { data := #[45] }] : Array Value)[m]? = some (.string (bs x)) := hxd; have hxe : ([.string { data := #[] }, .string { data := #[35] }, .string { data := #[46] }, .string { data := #[47] }, .string { data := #[48] }, .string { data := #[58] }, .string { data := #[45] }] : List Value)[m]? = some (.string (bs x)) := hxe; have hi0 : (0 : Int) ≤ (m : Int) := Int.natCast_nonneg _; have hi1 : (m : Int) < 7 := zb; have ha1 := add_two (P := Tryd.prog) (s.take k) x (by omega) (by omega); have ha2 := add_two (P := Tryd.prog) (s.take k ++ x) (s.drop (k + 1)) (by rw [List.length_append]; omega) (by omega); clear r7 g7 za zb))
      all_goals
        go_wp2
        go_ret
        exact ⟨_, rfl, by simp only [List.length_append]; omega, J7.below⟩
    · have hd : decide ((0 : Int) < (s.length : Int)) = false := decide_eq_false (by omega)
      go_wp2
      go_ret
      exact ⟨s, rfl, by omega, J4.below⟩
  · have hzb : (z4 == 0) = false := beq_eq_false_iff_ne.2 hz
    go_wp2
    go_ret
    exact ⟨s, rfl, by omega, J4.below⟩
end Go.Proofs.YtjncnjcpcmpmcaaDoor
