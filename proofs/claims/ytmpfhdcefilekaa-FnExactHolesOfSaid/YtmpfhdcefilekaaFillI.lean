/- Texts of one kind, merged: ConcI, FillI. No conditions but those that stand in each theorem. -/
import Derived.Test.YtmpfhdcefilekaaHoleI
import Derived.Test.YtmpfhdcefilekaaReach
import Derived.Test.YtmpfhdcefilekaaSumW
import Derived.Test.YtmpfhdcefilekaaTold
import Derived.Lib.AppendZerosOnto
namespace Go.Proofs.Ytmpfhdcefilekaa
/-! ### ConcI -/
section
open Go.RowKit Go.Sort

theorem grownNone {w w' : World} (hb : Below w.heap.size w w') : w.grownBy w' none := ⟨hb.os, hb.tape, hb.output, hb.size, fun k hk _ => hb.block k hk⟩
theorem wpList_zeros_spots {w : World} {ops : Array Oper} {rest : List Oper} {o : Oper} {a : Act} {Q : Exit → Act → World → Prop}
    (n : Nat) (h0 : 0 < n) (hn : n ≤ 1000000) (hgd : o.guard = none) (s t : Operand) (ho : o.op = .call { callee := .builtin .append, args := #[s, t], argTypes := #[23, 3] })
    (hs : a.eval s = .slice none 0 0) (ht : a.eval t = .int .i64 n)
    (h : ∀ (cap : Nat) w', n ≤ cap → cap ≤ maxLen → Owns w' w.heap.size (.slice (some ⟨w.heap.size, 0, none⟩) 0 cap) [] → w.grownBy w' none → wpList Try.prog ops Q rest (a.put o.dst (.slice (some ⟨w.heap.size, 0, none⟩) n cap)) w') : wpList Try.prog ops Q (o :: rest) a w := by
  refine wpList_plain hgd fun K hK => ?_
  obtain ⟨i0, hi, hz0, hz1, hz2⟩ := info_parts spotInfo
  have hrun := Lib.run_append_grow_zeros (P := Try.prog) w 23 3 o.type 42 i0 _ .i64 .i64 Try.underlying23 Try.underlying3 hi hz0 none 0 0 [] (run_firstCells_none w.drew i0.size 0 0 0) n h0 (by rw [hz1]; decide) (by omega) (by omega) (by rw [hz2]; omega) (by
    have : Builtin.nextslicecap (0 + n) 0 = n := by simp [Builtin.nextslicecap]; omega
    rw [this, hz2]; omega)
  have hge := grownCap_ge w (0 + n) 0 42
  have hle := grownCap_le_maxLen w (0 + n) 0 42 (by simp only [maxLen]; omega)
  simp only [Nat.zero_add] at hrun hge hle
  unfold Oper.wp execOp
  simp only [ho, resolve, invoke, builtin, Sem.run_bind, Sem.run_pure, Result.andThen_ok, List.map_toArray, List.map_cons, List.map_nil, hs, ht, hrun]
  refine hK _ _ (h (grownCap w n 0 42) _ hge hle (World.ownsRow_made w.drew _ _ (Nat.le_refl _) hle ?_) (grownNone ((Below.refl w.heap.size w).drew.alloc (Nat.le_refl _) _)))
  simp [Builtin.zeroCells, Value.cells]
  omega
set_option maxRecDepth 100000 in
theorem grow_any (n : Nat) (w : World) (hn : n ≤ 1000000) :
    Calls Try.prog 97 #[.slice none 0 0, .int .i64 n] w (GivesOwn [] w) := by
  by_cases h0 : n = 0
  · subst h0
    go_enter Try.func97, Try.ntmps97
    go_wp2
    go_ret
    exact ⟨_, rfl, Owns.nil _ _, Below.refl _ _⟩
  · have hp : 0 < n := by omega
    go_enter Try.func97, Try.ntmps97
    go_wp2_with (at_builtin; refine wpList_zeros_spots n hp hn rfl (.tmp 20) (.tmp 21) rfl rfl rfl ?_)
    intro cap w1 hc1 hc2 o1 g1
    unfold maxLen at hc2
    go_wp2
    go_ret
    exact ⟨_, rfl, o1, (Below.refl _ _).grown g1 (Nat.le_refl _) (by simp)⟩
set_option maxRecDepth 100000 in
set_option maxHeartbeats 800000 in
theorem concat_any (ls : List (List Sp)) (v : Value) (w : World) (h : PReads w w.heap.size v ls) (hl : (ls.map List.length).sum ≤ 1000000) :
    Calls Try.prog 74 #[v] w (GivesOwn ls.flatten w) := by
  obtain ⟨A, c, vs, rfl, hc, hm, hvl, hcell, hin⟩ := h.is
  unfold maxLen at hm
  have HA := Lib.hid (sumUpTo_all ls)
  go_enter Try.func74, Try.ntmps74
  go_wp2
  go_loopw [3, 11] (fun s i wr => ∃ k : Nat, k ≤ ls.length ∧ i = .int .i64 k ∧ s = .int .i64 (sumUpTo ls k) ∧ Below w.heap.size w wr) (fun _ i _ => ls.length - (intOf i).toNat)
  case atStart => exact ⟨0, Nat.zero_le _, rfl, rfl, Below.refl _ _⟩
  case round =>
    obtain ⟨k, hk, rfl, rfl, hbw⟩ := hrel
    by_cases hlk : k < ls.length
    · obtain ⟨b, rfl, hb, hcv⟩ := hcell (by omega)
      obtain ⟨q, hq⟩ : ∃ q, ls[k]? = some q := ⟨_, List.getElem?_eq_getElem hlk⟩
      obtain ⟨u, hu, hru⟩ := hin k q hq
      obtain ⟨Au, cu, rfl, hcu, hmu⟩ := hru.slice
      unfold maxLen at hmu
      have d0 := (hbw.cell (p := ⟨b, k, none⟩) hb).trans (hcv k _ hu)
      have hT := sumUpTo_succ hq
      have hle := sumUpTo_le ls (k + 1)
      have HT := Lib.hid hT
      have hqs : sumUpTo ls k + q.length ≤ 1000000 := by omega
      have hm3 : (0 : Int) ≤ (k : Int) := Int.natCast_nonneg _
      have hm4 : (k : Int) < (ls.length : Int) := by omega
      clear hT hle hq hu
      go_wp2
      go_roundw
      case rel => exact ⟨k + 1, by omega, by go_num, by rw [HT.out]; go_num, hbw⟩
      case measure => simp [intOf]; omega
    · obtain rfl : k = ls.length := by omega
      have hsm : sumUpTo ls ls.length ≤ 1000000 := by rw [HA.out]; exact hl
      go_wp2_with fail
      refine (grow_any (sumUpTo ls ls.length) wr hsm).mono ?_
      rintro e w1 ⟨v1, rfl, o1, b1⟩
      have bb1 := below_step hbw b1
      have o1 := o1.base hbw.size
      clear b1 hbw
      go_wp2
      go_loopw [6, 27] (fun o i wr => ∃ k : Nat, k ≤ ls.length ∧ i = .int .i64 k ∧ Owns wr w.heap.size o (ls.take k).flatten ∧ Below w.heap.size w wr) (fun _ i _ => ls.length - (intOf i).toNat)
      case atStart => exact ⟨0, Nat.zero_le _, rfl, o1, bb1⟩
      case round =>
        clear o1 bb1
        obtain ⟨k, hk, rfl, hown, hbw⟩ := hrel
        by_cases hlk : k < ls.length
        · obtain ⟨b, rfl, hb, hcv⟩ := hcell (by omega)
          obtain ⟨q, hq⟩ : ∃ q, ls[k]? = some q := ⟨_, List.getElem?_eq_getElem hlk⟩
          obtain ⟨u, hu, hru⟩ := hin k q hq
          have hru := hru.kept hbw
          obtain ⟨Au, cu, rfl, hcu, hmu⟩ := hru.slice
          unfold maxLen at hmu
          have d0 := (hbw.cell (p := ⟨b, k, none⟩) hb).trans (hcv k _ hu)
          have hfl := flat_length_upto ls k
          have hle := sumUpTo_le ls (k + 1)
          rw [sumUpTo_succ hq] at hle
          have hqs : (ls.take k).flatten.length + q.length ≤ 8000000000000 := by omega
          have HT := Lib.hid (flat_upto hq)
          have hm3 : (0 : Int) ≤ (k : Int) := Int.natCast_nonneg _
          have hm4 : (k : Int) < (ls.length : Int) := by omega
          clear hle hfl hq hu
          go_wp2_with (at_builtin; refine wpList_append_spots (qs := q) hown hru hqs hbw.size rfl (.tmp 31) (.tmp 32) rfl rfl rfl ?_)
          intro v4 w4 o4 g4 hv4
          have b4 := hown.below_app hbw hbw.size g4
          go_wp2
          go_roundw
          case rel => exact ⟨k + 1, by omega, by go_num, by rw [← HT.out]; exact o4, b4⟩
          case measure => simp [intOf]; omega
        · obtain rfl : k = ls.length := by omega
          rw [List.take_length] at hown
          go_wp2
          go_ret
          exact ⟨_, rfl, hown, hbw⟩
end
/-! ### FillI -/
section
open Go.RowKit Go.Sort

theorem fill_pic {p : List Sp} (hp : picB p = true) : picB (fillL p) = decide ((fillL p).length ≤ 60) := by
  rw [Bool.eq_iff_iff, decide_eq_true_eq]
  constructor
  · intro h; exact (picB_pic h).1
  · intro h
    refine decide_eq_true ⟨h, fun a ha => ?_, sorted_fillL (picB_pic hp).2.2⟩
    by_cases h0 : p = []
    · subst h0
      have e : fillL [] = [] := by unfold fillL; rw [holesL_nil]; rfl
      rw [e] at ha; cases ha
    · have hb := box_range hp h0
      have := fill_in ha
      unfold InR; omega
theorem fillOk_no {p : List Sp} (h : picB p = false) : fillOk p = false ∧ fillR p = [] := by
  have : fillOk p = false := by unfold fillOk; rw [h]; rfl
  exact ⟨this, by unfold fillR; rw [this]; rfl⟩
theorem fillOk_is {p : List Sp} (h : picB p = true) : fillOk p = picB (fillL p) := by unfold fillOk; rw [h, fill_pic h, Bool.true_and]
theorem fillR_yes {p : List Sp} (h : picB p = true) (k : picB (fillL p) = true) : fillR p = fillL p := by unfold fillR; rw [fillOk_is h, k, if_pos rfl]
theorem fillR_no {p : List Sp} (h : picB p = true) (k : picB (fillL p) = false) : fillR p = [] := by unfold fillR; rw [fillOk_is h, k]; rfl
theorem dd_fill {l p : List Sp} (hp : Sorted p) (hw : WS l) (h : ∀ x, x ∈ l ↔ x ∈ (holesL p ++ [p]).flatten) : dd l l.length = fillL p :=
  sorted_ext (sorted_dd hw (Nat.le_refl _)) (sorted_fillL hp) fun x => by
    rw [mem_dd, ← mem_getD, h, mem_fillL, List.mem_flatten]
    constructor
    · rintro ⟨q, hq, hx⟩
      rcases List.mem_append.1 hq with hq | hq
      · exact .inr ⟨q, hq, hx⟩
      · rw [List.mem_singleton] at hq; subst hq; exact .inl hx
    · rintro (hx | ⟨q, hq, hx⟩)
      · exact ⟨p, List.mem_append_right _ (List.mem_singleton.2 rfl), hx⟩
      · exact ⟨q, List.mem_append_left _ hq, hx⟩
theorem sum_filter_le {α : Type} (f : α → Nat) (g : α → Bool) : ∀ l : List α, ((l.filter g).map f).sum ≤ (l.map f).sum
  | [] => Nat.le_refl _
  | a :: l => by
    have ih := sum_filter_le f g l
    rcases h : g a with _ | _
    · rw [List.filter_cons_of_neg (by rw [h]; exact Bool.false_ne_true), List.map_cons, List.sum_cons]; omega
    · rw [List.filter_cons_of_pos h, List.map_cons, List.map_cons, List.sum_cons, List.sum_cons]; omega
theorem rest_length {p : List Sp} (hp : picB p = true) : (restL p).length ≤ 3721 := by
  by_cases h0 : p = []
  · subst h0; rw [restL_nil]; simp
  · have hb := box_range hp h0
    unfold restL
    rw [if_neg h0]
    exact length_betw61 hb.1.1 hb.1.2 hb.2.1 hb.2.2
theorem holes_sum {p : List Sp} (hp : picB p = true) : ((holesL p).map List.length).sum ≤ 3721 := by
  have h1 := pieces_sum (e := false) (sorted_restL p)
  have h2 := sum_filter_le List.length (innerB (boxL p).1 (boxL p).2) (piecesL false (restL p))
  have h3 := rest_length hp
  unfold holesL; omega
theorem holes_length {p : List Sp} (hp : picB p = true) : (holesL p).length ≤ 3721 := by
  have h1 := length_firsts_le false (restL p)
  have h2 := List.length_filter_le (innerB (boxL p).1 (boxL p).2) (piecesL false (restL p))
  have h3 := rest_length hp
  rw [length_piecesL] at h2
  unfold holesL; omega
theorem Inner.grown {w w' : World} {base base' : Nat} {v : Value} {vs vs' : List Value} {ls : List (List Sp)} (h : Inner w base vs ls) (hv : VOwns 23 w base' v vs') (hg : w.grownBy w' v.ownBlock) : Inner w' base vs ls :=
  ⟨h.len, fun k p hk => by obtain ⟨u, h1, h2⟩ := h.own k p hk; exact ⟨u, h1, h2.grown hg (hv.apartO parts_apart h2)⟩, h.ne⟩
/-- lists of the call's own, and one more that came in -/
theorem preads_snoc {w : World} {base : Nat} {v u : Value} {vs : List Value} {ls : List (List Sp)} {p : List Sp} (hv : VOwns 23 w base v (vs ++ [u])) (hI : Inner w base vs ls) (hu : Reads w w.heap.size u p) : PReads w w.heap.size v (ls ++ [p]) := by
  obtain ⟨A, c, rfl, h3, h4, h5⟩ := hv.shape
  have hl := hI.len
  have e1 : (vs ++ [u]).length = (ls ++ [p]).length := by rw [List.length_append, List.length_append, hl]; rfl
  refine ⟨A, c, vs ++ [u], by rw [e1], by omega, h4, e1, fun h0 => ?_, fun k q hk => ?_⟩
  · obtain ⟨g, rfl, h6, h7⟩ := h5 (by omega)
    exact ⟨g, rfl, h7, fun k u hk => (hv.cell (List.getElem?_eq_some_iff.1 hk).1).trans hk⟩
  · by_cases hl' : k < ls.length
    · rw [List.getElem?_append_left hl'] at hk
      obtain ⟨a, h1, h2⟩ := hI.own k q hk
      exact ⟨a, by rw [List.getElem?_append_left (by rw [hl]; exact hl')]; exact h1, h2.reads⟩
    · rw [List.getElem?_append_right (by omega)] at hk
      have e : k - ls.length = 0 := by
        have := (List.getElem?_eq_some_iff.1 hk).1
        simp only [List.length_singleton] at this; omega
      rw [e] at hk
      cases hk
      exact ⟨u, by rw [List.getElem?_append_right (by rw [hl]; omega), hl, e]; rfl, hu⟩
theorem holesR_yes {p : List Sp} (h : picB p = true) : holesR p = holesL p := by unfold holesR; rw [h]; rfl
set_option maxRecDepth 100000 in
set_option maxHeartbeats 1600000 in
theorem implFilled_any (ps : List Sp) (v : Value) (w : World) (h : Reads w w.heap.size v ps) :
    Calls Try.prog 34 #[v] w (Gives2' (fillR ps) (fillOk ps) w) := by
  obtain ⟨A, c, rfl, hc, hm⟩ := h.slice
  rcases hp : picB ps with _ | _
  · rw [(fillOk_no hp).1, (fillOk_no hp).2]
    go_enter Try.func34, Try.ntmps34
    go_wp2_with fail
    refine (gives_is hp (implPicture_any ps _ _ h)).mono ?_
    rintro e w1 ⟨rfl, b1⟩
    go_wp2
    go_ret2
    exact ⟨_, rfl, Owns.nil _ _, b1⟩
  · have hps := (picB_pic hp).2.2
    have hpl := (picB_pic hp).1
    have HSUM := Lib.hid (holes_sum hp)
    have hlen := holes_length hp
    have hres : ∃ (b : Bool) (R : List Sp), fillOk ps = b ∧ fillR ps = R ∧ picB (fillL ps) = b ∧ (b = true → R = fillL ps) ∧ (b = false → R = []) := by
      refine ⟨picB (fillL ps), fillR ps, fillOk_is hp, rfl, rfl, fun k => fillR_yes hp k, fun k => fillR_no hp k⟩
    obtain ⟨b, R, hb1, hb2, hb3, hb4, hb5⟩ := hres
    rw [hb1, hb2]
    have HH := Lib.hid (holesR_yes hp)
    have HP := Lib.hid hp
    have HB := Lib.hid (And.intro hb3 (And.intro hb4 hb5))
    clear hp hb1 hb2 hb3 hb4 hb5
    go_enter Try.func34, Try.ntmps34
    go_wp2_with fail
    refine (gives_is HP.out (implPicture_any ps _ _ h)).mono ?_
    rintro e w1 ⟨rfl, b1⟩
    go_wp2_with fail
    refine (implHoles_any ps _ w1 (h.kept b1)).mono ?_
    rintro e w2 ⟨v2, rfl, o2, b2⟩
    rw [HH.out] at o2
    have bb2 := below_step b1 b2
    obtain ⟨vs, hvo, hvi⟩ := o2
    have hvl := hvi.len
    have bal := box_below w2 #[.slice A ps.length c] 23
    have hvo3 := hvo.below bal
    have hvi3 := hvi.below bal
    have bb3 := below_step bb2 bal
    have hs3 := bb3.size
    have hs13 := Nat.le_trans b2.size bal.size
    go_wp2_with (at_builtin; refine wpList_append_Part (g := w2.heap.size) (x := .slice A ps.length c) hvo3 (by simp [go_sem]) rfl (by omega) hs13 rfl (.tmp 8) (.tmp 10) rfl rfl rfl ?_)
    intro v4 w4 hv4 g4 hb4
    have bb4 := bb3.grown g4 hs3 (fun k hk => by have := (hvo3.lt k hk).1; have := b1.size; omega)
    have hvi4 := hvi3.grown hvo3 g4
    have hpr := preads_snoc hv4 hvi4 (h.kept bb4)
    have hsum : ((holesL ps ++ [ps]).map List.length).sum ≤ 1000000 := by
      rw [List.map_append, List.sum_append]
      have := HSUM.out
      simp only [List.map_cons, List.map_nil, List.sum_cons, List.sum_nil]
      omega
    have hfl : (holesL ps ++ [ps]).flatten.length ≤ 1000000 := by rw [List.length_flatten]; exact hsum
    obtain ⟨X, hX⟩ : ∃ X, holesL ps ++ [ps] = X := ⟨_, rfl⟩
    rw [hX] at hpr hsum hfl
    have HX := Lib.hid hX
    clear hX hv4 hvi4
    obtain ⟨A4, c4, rfl, _, _⟩ := hpr.slice
    go_wp2_with fail
    refine (concat_any X _ w4 hpr hsum).mono ?_
    rintro e w5 ⟨v5, rfl, o5, b5⟩
    have bb5 := below_step bb4 b5
    go_wp2_with fail
    refine (putInOrder_any w4.heap.size _ v5 _ o5 b5.size hfl).mono ?_
    rintro e w6 ⟨v6, l', rfl, hws, hmem, o6, b6⟩
    rw [← HX.out] at hmem
    rw [dd_fill hps hws hmem] at o6
    have bb6 := bb5.trans (b6.mono bb4.size)
    clear hws hmem
    rcases b with _ | _
    · have HR := Lib.hid (HB.out.2.2 rfl)
      have HBF := Lib.hid HB.out.1
      go_wp2_with fail
      refine (told_no HBF.out o6).mono ?_
      rintro e w7 ⟨rfl, b7⟩
      go_wp2
      go_ret2
      exact ⟨_, rfl, by rw [HR.out]; exact Owns.nil _ _, below_step bb6 b7⟩
    · have HR := Lib.hid (HB.out.2.1 rfl)
      have HBF := Lib.hid HB.out.1
      obtain ⟨A6, c6, rfl, _, _⟩ := o6.reads.slice
      go_wp2_with fail
      refine (told_yes HBF.out o6).mono ?_
      rintro e w7 ⟨rfl, b7⟩
      go_wp2
      go_ret2
      exact ⟨_, rfl, by rw [HR.out]; exact (o6.below b7).base bb4.size, below_step bb6 b7⟩
end
end Go.Proofs.Ytmpfhdcefilekaa
