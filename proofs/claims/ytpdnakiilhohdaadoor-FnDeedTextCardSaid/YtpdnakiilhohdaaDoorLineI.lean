/- The program's lines of words and numbers, their parts, and the kinds of deeds by their words. No conditions but those typed: what the listed variables of the library hold ('PowOk', 'ErrOk'). -/
import Derived.Test.YtpdnakiilhohdaaDoorNamed
import Derived.Test.YtpdnakiilhohdaaDoorLibN
import Derived.Test.YtpdnakiilhohdaaDoorCutI
import Derived.Deep.LoopGhost
namespace Go.Proofs.YtpdnakiilhohdaaDoor
open Go.RowKit Go.Sort

theorem numB_len9 {n : Int} (h : -10 ^ 9 < n ∧ n < 10 ^ 9) : (numB n).length ≤ 10 := by
  unfold numB
  split
  · have := natB_length 8 n.natAbs (by omega)
    simp only [List.length_cons]; omega
  · have := natB_length 8 n.toNat (by omega)
    omega
theorem itoaL_any {n : Int} {l : Bs} (h : -10 ^ 9 < n ∧ n < 10 ^ 9) (hl : numB n = l) (w : World) (hp : PowOk w) : Calls Tryd.prog 55 #[.int .i64 n] w (Gives (strV l) w) := by
  subst hl; exact itoa_any n (by omega) w hp
set_option maxRecDepth 100000 in
theorem lineFn_any (l : Bs) (n : Int) (h : -10 ^ 9 < n ∧ n < 10 ^ 9) (hl : l.length ≤ 1000) (w : World) (hp : PowOk w) :
    Calls Tryd.prog 54 #[.string (bs l), .int .i64 n] w (Gives (strV (l ++ 32 :: numB n)) w) := by
  obtain ⟨m, hm⟩ : ∃ m, numB n = m := ⟨_, rfl⟩
  have hml : m.length ≤ 10 := by rw [← hm]; exact numB_len9 h
  rw [hm]
  have a1 := add_lit (P := Tryd.prog) l 32 (by omega)
  have a2 := add_two (P := Tryd.prog) (l ++ [32]) m (by simp; omega) (by omega)
  rw [List.append_assoc, List.singleton_append] at a2
  have HI := Lib.hid hm
  clear hm
  go_enter Tryd.func54, Tryd.ntmps54
  go_wp2_with fail
  refine (itoaL_any h HI.out w hp).mono ?_
  rintro e w1 ⟨rfl, b1⟩
  go_wp2
  go_ret
  exact ⟨rfl, b1⟩
/-- numbers in memory -/
structure NumsAt (w : World) (g : Nat) (l : List Int) : Prop where
  lt : g < w.heap.size
  at' : ∀ (j : Nat) (x : Int), l[j]? = some x → w.cell? ⟨g, j, none⟩ = some (.int .i64 x)
theorem NumsAt.below {w w' : World} {g : Nat} {l : List Int} (h : NumsAt w g l) (hb : Below w.heap.size w w') : NumsAt w' g l := ⟨Nat.lt_of_lt_of_le h.lt hb.size, fun j x hj => (hb.cell (p := ⟨g, j, none⟩) h.lt).trans (h.at' j x hj)⟩
theorem lineT_cons (w : Bs) (x : Int) (l : List Int) : lineT w (x :: l) = w ++ 32 :: lineT (numB x) l := by
  unfold lineT
  rw [List.map_cons, joinB_cons 32 w (by simp)]
theorem lineT_len : ∀ {l : List Int} {w : Bs}, (∀ x ∈ l, -10 ^ 9 < x ∧ x < 10 ^ 9) → (lineT w l).length ≤ w.length + 11 * l.length
  | [], w, _ => by rw [lineT_nil]; simp
  | x :: l, w, h => by
    have i1 := lineT_len (w := numB x) fun y hy => h y (List.mem_cons_of_mem _ hy)
    have i2 := numB_len9 (h x (List.mem_cons_self ..))
    rw [lineT_cons, List.length_append, List.length_cons, List.length_cons]
    omega
theorem lineT_next {w : Bs} {l : List Int} {k : Nat} {x : Int} (h : l[k]? = some x) : lineT w (l.take k) ++ 32 :: numB x = lineT w (l.take (k + 1)) := by
  rw [List.take_add_one, h, Option.toList_some, lineT_snoc]
set_option maxRecDepth 100000 in
set_option maxHeartbeats 800000 in
theorem foldLine_any (wd : Bs) (l : List Int) (g c : Nat) (w : World) (h : NumsAt w g l) (hl : l.length ≤ 2) (hw : wd.length ≤ 100) (hr : ∀ x ∈ l, -10 ^ 9 < x ∧ x < 10 ^ 9) (hp : PowOk w) :
    Calls Tryd.prog 53 #[.slice (some ⟨g, 0, none⟩) l.length c, .string (bs wd), .func (.func 54) #[] #[]] w (Gives (strV (lineT wd l)) w) := by
  have HR := Lib.hid hr
  have HP := Lib.hid hp
  have HT := Lib.hid (fun k => lineT_len (w := wd) (l := l.take k) fun x hx => hr x (List.mem_of_mem_take hx))
  clear hr hp
  go_enter Tryd.func53, Tryd.ntmps53
  go_wp2
  go_loopw [7, 13] (fun o i wr => ∃ j : Nat, j ≤ l.length ∧ i = .int .i64 j ∧ o = .string (bs (lineT wd (l.take j))) ∧ Below w.heap.size w wr) (fun _ i _ => l.length - (intOf i).toNat)
  case atStart => exact ⟨0, Nat.zero_le _, rfl, rfl, Below.refl _ _⟩
  case round =>
    obtain ⟨j, hj, rfl, rfl, hbw⟩ := hrel
    by_cases hlt : j < l.length
    · obtain ⟨x, hx⟩ : ∃ a, l[j]? = some a := ⟨_, List.getElem?_eq_getElem hlt⟩
      have d0 := (h.below hbw).at' j x hx
      have hn := HR.out x (List.mem_of_getElem? hx)
      have HK := Lib.hid (lineT_next (w := wd) hx)
      have hlen := HT.out j
      rw [List.length_take] at hlen
      have cc := lineFn_any (lineT wd (l.take j)) x hn (by omega) wr (HP.out.below hbw)
      rw [HK.out] at cc
      obtain ⟨S, hS⟩ : ∃ S, lineT wd (l.take j) = S := ⟨_, rfl⟩
      rw [hS] at cc ⊢
      clear hx hn hlen hS
      go_wp2_with fail
      refine cc.mono ?_
      rintro e w2 ⟨rfl, b2⟩
      have bx2 := below_step hbw b2
      go_wp2
      go_roundw
      case rel => exact ⟨j + 1, by omega, by go_num, rfl, bx2⟩
      case measure => simp [intOf]; omega
    · obtain rfl : j = l.length := by omega
      rw [List.take_length]
      go_wp2
      go_ret
      exact ⟨rfl, hbw⟩
theorem lineI_any (wd : Bs) (l : List Int) (g c : Nat) (w : World) (h : NumsAt w g l) (hl : l.length ≤ 2) (hw : wd.length ≤ 100) (hr : ∀ x ∈ l, -10 ^ 9 < x ∧ x < 10 ^ 9) (hp : PowOk w) :
    Calls Tryd.prog 36 #[.string (bs wd), .slice (some ⟨g, 0, none⟩) l.length c] w (Gives (strV (lineT wd l)) w) := by
  go_enter Tryd.func36, Tryd.ntmps36
  go_wp2_with fail
  refine (foldLine_any wd l g c w h hl hw hr hp).mono ?_
  rintro e w1 ⟨rfl, b1⟩
  go_wp2
  go_ret
  exact ⟨rfl, b1⟩

/-! ### parts of a line -/
theorem readsAs {s : Bs} {z : Int} (h1 : ∀ v, Lib.atoiAll s = .ok v → z = v) (h2 : s = [] → z = 0) : ReadsAs s z := ⟨h2, fun n hn e => by
  subst e
  exact h1 n (atoi_numB hn)⟩
def PartsPost (s : Bs) (w : World) (e : Ending) (w' : World) : Prop := Below w.heap.size w w' ∧ ∃ x y : Int, e = .returned (.tuple #[.string (bs (cutAt 32 s).1), .int .i64 x, .int .i64 y]) ∧ ReadsAs (firstS s) x ∧ ReadsAs (secondS s) y
theorem cut_lit {l p q : Bs} {c : UInt8} {B : ByteArray} {b : Bool} {w : World} (hB : bs [c] = B) (h1 : (cutAt c l).1 = p) (h2 : (cutAt c l).2.1 = q) (h3 : (cutAt c l).2.2 = b) (hl : l.length ≤ 1000000000) : Calls Tryd.prog 50 #[.string (bs l), .string B] w fun e w' => e = .returned (.tuple #[.string (bs p), .string (bs q), .bool b]) ∧ Below w.heap.size w w' := by
  subst hB; subst h1; subst h2; subst h3
  exact cut_any l c hl w
set_option maxRecDepth 100000 in
theorem parts_any (s : Bs) (hl : s.length ≤ 100000000) (w : World) (he : ErrOk w) : Calls Tryd.prog 40 #[.string (bs s)] w (PartsPost s w) := by
  obtain ⟨h1, h2⟩ := parts_le s
  have h3 := (cutAt_le 32 s).2
  obtain ⟨P, hP⟩ : ∃ P, (cutAt 32 s).1 = P := ⟨_, rfl⟩
  obtain ⟨Q, hQ⟩ : ∃ Q, (cutAt 32 s).2.1 = Q := ⟨_, rfl⟩
  obtain ⟨b, hb⟩ : ∃ b, (cutAt 32 s).2.2 = b := ⟨_, rfl⟩
  obtain ⟨F, hF⟩ : ∃ F, firstS s = F := ⟨_, rfl⟩
  obtain ⟨G, hG⟩ : ∃ G, secondS s = G := ⟨_, rfl⟩
  unfold PartsPost
  have k1 : (cutAt 32 Q).1 = F := by rw [← hQ]; exact hF
  have k2 : (cutAt 32 Q).2.1 = G := by rw [← hQ]; exact hG
  obtain ⟨b', hb'⟩ : ∃ b, (cutAt 32 Q).2.2 = b := ⟨_, rfl⟩
  rw [hP, hF, hG]
  rw [hF] at h1
  rw [hG] at h2
  rw [hQ] at h3
  have c1 := fun w => cut_lit (w := w) (show bs [32] = { data := #[32] } from rfl) hP hQ hb (by omega)
  have c2 := fun w => cut_lit (w := w) (show bs [32] = { data := #[32] } from rfl) k1 k2 hb' (by omega)
  clear hP hQ hb hF hG k1 k2 hb'
  go_enter Tryd.func40, Tryd.ntmps40
  go_wp2_with fail
  refine (c1 _).mono ?_
  rintro e w1 ⟨rfl, b1⟩
  go_wp2_with fail
  refine (c2 _).mono ?_
  rintro e w2 ⟨rfl, b2⟩
  have bb := below_step b1 b2
  clear b1 b2 c1 c2
  go_wp2_with fail
  refine (atoiG_any F (by omega) _ (he.below bb)).mono ?_
  rintro e w3 ⟨b3, x, u, rfl, x1, x2⟩
  replace bb := below_step bb b3
  have X := readsAs x1 x2
  clear b3 x1 x2
  go_wp2_with fail
  refine (atoiG_any G (by omega) _ (he.below bb)).mono ?_
  rintro e w4 ⟨b4, y, u', rfl, y1, y2⟩
  replace bb := below_step bb b4
  have Y := readsAs y1 y2
  clear b4 y1 y2
  go_wp2
  go_ret3
  exact ⟨bb, x, y, rfl, X, Y⟩

/-! ### the kind of deeds with a word -/
theorem dkWord_is {n : Nat} (h : n ≤ 8) : dkWordA n = bs (wordD n) := by
  rcases (show n = 0 ∨ n = 1 ∨ n = 2 ∨ n = 3 ∨ n = 4 ∨ n = 5 ∨ n = 6 ∨ n = 7 ∨ n = 8 by omega) with rfl | rfl | rfl | rfl | rfl | rfl | rfl | rfl | rfl <;> rfl
theorem dkNum_is {n : Nat} (h : n ≤ 8) : dkNum n = numsD n := by
  rcases (show n = 0 ∨ n = 1 ∨ n = 2 ∨ n = 3 ∨ n = 4 ∨ n = 5 ∨ n = 6 ∨ n = 7 ∨ n = 8 by omega) with rfl | rfl | rfl | rfl | rfl | rfl | rfl | rfl | rfl <;> rfl
set_option maxRecDepth 100000 in
theorem kindFn_any (wd u : Bs) (z : Int) (g : Nat) (b : Bool) (w : World) (hg : w.cell? ⟨g, 0, none⟩ = some (.string (bs wd))) (hlt : g < w.heap.size) (hb : (u == wd) = b) :
    Calls Tryd.prog 59 #[.agg #[.string (bs u), .int .i64 z], .pointer (some ⟨g, 0, none⟩)] w (Gives (.bool b) w) := by
  have hg2 : (w.alloc (.cells #[.string (bs u), .int .i64 z] 89)).cell? ⟨g, 0, none⟩ = some (.string (bs wd)) := ((box_below w _ _).cell (p := ⟨g, 0, none⟩) hlt).trans hg
  have e1 : (bs u).toList = u := ByteArray.toList_mk u
  have e2 : (bs wd).toList = wd := ByteArray.toList_mk wd
  go_enter Tryd.func59, Tryd.ntmps59
  go_wp2
  go_ret
  exact ⟨rfl, box_below _ _ _⟩
/-- the table of words in memory -/
structure NamesAt (w : World) (B : Nat) : Prop where
  lt : B < w.heap.size
  at' : ∀ j : Nat, j ≤ 8 → w.cell? ⟨B, j * 2, none⟩ = some (.string (bs (wordD j))) ∧ w.cell? ⟨B, j * 2 + 1, none⟩ = some (.int .i64 (dkNum j : Int))
theorem NamesAt.below {w w' : World} {B : Nat} (h : NamesAt w B) (hb : Below w.heap.size w w') : NamesAt w' B := ⟨Nat.lt_of_lt_of_le h.lt hb.size, fun j hj => ⟨(hb.cell (p := ⟨B, j * 2, none⟩) h.lt).trans (h.at' j hj).1, (hb.cell (p := ⟨B, j * 2 + 1, none⟩) h.lt).trans (h.at' j hj).2⟩⟩
theorem names_new (w : World) : NamesAt (w.alloc (.cells namesC 90)) w.heap.size := by
  refine ⟨by simp, fun j hj => ?_⟩
  have hc : ∀ k : Nat, (w.alloc (.cells namesC 90)).cell? ⟨w.heap.size, k, none⟩ = namesC[k]? := fun k => by
    unfold World.cell?
    rw [heap_alloc_new]
    rfl
  rw [hc, hc]
  rcases (show j = 0 ∨ j = 1 ∨ j = 2 ∨ j = 3 ∨ j = 4 ∨ j = 5 ∨ j = 6 ∨ j = 7 ∨ j = 8 by omega) with rfl | rfl | rfl | rfl | rfl | rfl | rfl | rfl | rfl <;> exact ⟨rfl, rfl⟩
def NotUpto (wd : Bs) (k : Nat) : Prop := ∀ j : Nat, j < k → wordD j ≠ wd
set_option maxRecDepth 100000 in
set_option maxHeartbeats 800000 in
theorem kindIdx_any (wd : Bs) (B g : Nat) (w : World) (hB : NamesAt w B) (hg : w.cell? ⟨g, 0, none⟩ = some (.string (bs wd))) (hlt : g < w.heap.size) :
    Calls Tryd.prog 58 #[.slice (some ⟨B, 0, none⟩) 9 9, .func (.func 59) #[] #[.pointer (some ⟨g, 0, none⟩)]] w (Gives (.int .i64 (kindR wd)) w) := by
  go_enter Tryd.func58, Tryd.ntmps58
  go_wp2
  go_loopw [8] (fun i wr => ∃ j : Nat, j ≤ 9 ∧ i = .int .i64 j ∧ NotUpto wd j ∧ Below w.heap.size w wr) (fun i _ => 9 - (intOf i).toNat)
  case atStart => exact ⟨0, Nat.zero_le _, rfl, fun j hj => by omega, Below.refl _ _⟩
  case round =>
    obtain ⟨j, hj, rfl, hI, hbw⟩ := hrel
    have HI := Lib.hid hI
    clear hI
    by_cases h9 : j < 9
    · obtain ⟨d0, d1⟩ := (hB.below hbw).at' j (by omega)
      have dg := (hbw.cell (p := ⟨g, 0, none⟩) hlt).trans hg
      have hgw := Nat.lt_of_lt_of_le hlt hbw.size
      have hm3 : (0 : Int) ≤ (j : Int) := Int.natCast_nonneg _
      have hm4 : (j : Int) < 9 := by omega
      obtain ⟨z, hz⟩ : ∃ z : Int, (dkNum j : Int) = z := ⟨_, rfl⟩
      rw [hz] at d1
      obtain ⟨S, hS⟩ : ∃ S, wordD j = S := ⟨_, rfl⟩
      rw [hS] at d0
      have HS := Lib.hid hS
      clear hz hS
      rcases hq : (S == wd) with _ | _
      · have HQ := Lib.hid hq
        clear hq
        go_wp2_with fail
        refine (kindFn_any wd S z g false wr dg hgw HQ.out).mono ?_
        rintro e w1 ⟨rfl, b1⟩
        go_wp2
        go_roundw
        case rel => exact ⟨j + 1, by omega, by go_num, fun i hi => (by
          by_cases e : i = j
          · rw [e, HS.out]; exact beq_eq_false_iff_ne.1 HQ.out
          · exact HI.out i (by omega)), below_step hbw b1⟩
        case measure => simp [intOf]; omega
      · have HQ := Lib.hid hq
        clear hq
        go_wp2_with fail
        refine (kindFn_any wd S z g true wr dg hgw HQ.out).mono ?_
        rintro e w1 ⟨rfl, b1⟩
        go_wp2
        go_ret
        have e1 : wordD j = wd := HS.out.trans (beq_iff_eq.1 HQ.out)
        exact ⟨by rw [← e1, kindR_word h9]; rfl, below_step hbw b1⟩
    · obtain rfl : j = 9 := by omega
      have HK := Lib.hid (kindR_none HI.out)
      clear HI
      go_wp2
      go_ret
      exact ⟨by rw [HK.out]; rfl, hbw⟩
set_option maxRecDepth 100000 in
theorem kind_any (wd : Bs) (w : World) : Calls Tryd.prog 41 #[.string (bs wd)] w (Gives (.int .i64 (kindR wd)) w) := by
  obtain ⟨W, hW⟩ : ∃ W, W = w.alloc (.cells #[.string (bs wd)] 9) := ⟨_, rfl⟩
  have b0 : Below w.heap.size w W := by rw [hW]; exact box_below _ _ _
  have c0 : W.cell? ⟨w.heap.size, 0, none⟩ = some (.string (bs wd)) := by rw [hW]; simp [go_sem]
  have s0 : w.heap.size < W.heap.size := by rw [hW]; simp
  obtain ⟨C, hC⟩ : ∃ C, namesC = C := ⟨_, rfl⟩
  have HD := Lib.hid (fun w => deedNames_any w)
  have HN := Lib.hid (fun w => names_new w)
  have hsz : C.size = 18 := by rw [← hC]; rfl
  have hst : ∀ w', (storeCells ⟨World.heap w' |>.size, 0, none⟩ C.toList 0).run Tryd.prog (w'.alloc (.cells #[.string ⟨#[]⟩, .int .i64 0, .string ⟨#[]⟩, .int .i64 0, .string ⟨#[]⟩, .int .i64 0, .string ⟨#[]⟩, .int .i64 0, .string ⟨#[]⟩, .int .i64 0, .string ⟨#[]⟩, .int .i64 0, .string ⟨#[]⟩, .int .i64 0, .string ⟨#[]⟩, .int .i64 0, .string ⟨#[]⟩, .int .i64 0] 90)) = .ok () (w'.alloc (.cells C 90)) := fun w' =>
    run_storeCells_new (P := Tryd.prog) w' 90 _ C (by rw [hsz]; kernel_rfl) (by rw [hsz]; rfl) (by rw [← hC]; kernel_rfl)
  rw [show namesV = .agg namesC from rfl, hC] at HD
  rw [hC] at HN
  clear hC
  go_enter Tryd.func41, Tryd.ntmps41
  go_wp2_with (first | (rw [← hW]; clear hW) | fail)
  refine (HD.out _).mono ?_
  rintro e w1 ⟨rfl, b1⟩
  have hst1 := hst w1
  have hB := HN.out w1
  obtain ⟨X, hX⟩ : ∃ X, X = w1.alloc (.cells C 90) := ⟨_, rfl⟩
  have bx : Below w1.heap.size w1 X := by rw [hX]; exact box_below _ _ _
  have c2 := ((below_step b1 bx).cell (p := ⟨w.heap.size, 0, none⟩) s0).trans c0
  have s2 := Nat.lt_of_lt_of_le s0 (below_step b1 bx).size
  rw [← hX] at hst1 hB
  clear hst
  go_wp2_with (first | (rw [← hX]; clear hX) | fail)
  refine (kindIdx_any wd w1.heap.size w.heap.size X hB c2 s2).mono ?_
  rintro e w2 ⟨rfl, b2⟩
  go_wp2
  go_ret
  exact ⟨rfl, below_step b0 (below_step (below_step b1 bx) b2)⟩
end Go.Proofs.YtpdnakiilhohdaaDoor
