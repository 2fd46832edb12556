/- The program's OverOf: both numbers of each spot exchanged, put in order. No conditions but those typed. -/
import Derived.Test.YtkiidmdgdjphjaaGreatSumW
import Derived.Test.YtkiidmdgdjphjaaGreatPlain
import Derived.Test.YtkiidmdgdjphjaaGreatParts
namespace Go.Proofs.YtkiidmdgdjphjaaGreat
open Go.RowKit Go.Sort

theorem over_at {p : List Sp} {k : Nat} {x y : Int} (h : p[k]? = some (x, y)) : (p.map overS)[k]? = some (y, x) := by
  rw [List.getElem?_map, h]; rfl
theorem dd_over {p l : List Sp} (hw : WS l) (h : ∀ x, x ∈ l ↔ x ∈ p.map overS) : dd l l.length = overL p :=
  sorted_ext (sorted_dd hw (Nat.le_refl _)) (sorted_overL p) fun x => by
    rw [mem_dd, ← mem_getD, h, mem_overL, List.mem_map]
    constructor
    · rintro ⟨a, ha, rfl⟩; exact ha
    · exact fun hx => ⟨overS x, hx, rfl⟩
set_option maxRecDepth 100000 in
set_option maxHeartbeats 1600000 in
theorem implOver_any (ps : List Sp) (v : Value) (w : World) (h : Reads w w.heap.size v ps) : Calls Tryz.prog 109 #[v] w (GivesOwn (overR ps) w) := by
  obtain ⟨A, c, rfl, hc, hm, hA, hr⟩ := h.is
  unfold maxLen at hm
  rcases hp : picB ps with _ | _
  · rw [overR_no hp]
    go_enter Tryz.func109, Tryz.ntmps109
    go_wp2_with fail
    refine (gives_is hp (implPicture_any ps _ _ h)).mono ?_
    rintro e w1 ⟨rfl, b1⟩
    go_wp2
    go_ret
    exact ⟨_, rfl, Owns.nil _ _, b1⟩
  · rw [overR_yes hp]
    have hpl := (picB_pic hp).1
    have HD := Lib.hid (fun l hw k => dd_over (p := ps) (l := l) hw k)
    go_enter Tryz.func109, Tryz.ntmps109
    go_wp2_with fail
    refine (gives_is hp (implPicture_any ps _ _ h)).mono ?_
    rintro e w0 ⟨rfl, b0⟩
    have h' := h.kept b0
    clear hp
    have hbs0 : w.heap.size ≤ w0.heap.size := b0.size
    go_wp2_with (at_make; refine wpList_make_spots ps.length (by omega) rfl _ _ rfl _ _ rfl rfl rfl rfl ?_)
    intro w1 ho1 hg1
    have hb1 : Below w0.heap.size w0 w1 := (Below.refl _ _).grown hg1 (Nat.le_refl _) (by simp)
    clear hg1
    by_cases h0 : ps.length = 0
    · have e : ps = [] := List.eq_nil_of_length_eq_zero h0
      subst e
      go_wp2
      refine wp_loop_rounds 1 ?_
      rw [rounds_succ]
      go_wp2_with fail
      refine (putInOrder_any w0.heap.size [] _ w1 ho1 hb1.size (by simp)).mono ?_
      rintro e w2 ⟨v2, l', rfl, hws, hmem, o2, b2⟩
      rw [HD.out l' hws hmem] at o2
      go_wp2
      go_ret
      exact ⟨_, rfl, o2.base b0.size, below_step b0 (hb1.trans b2)⟩
    · obtain ⟨b, off, rfl, hb, hcell⟩ := hr (by omega)
      have hO := Lib.hid ho1
      clear ho1
      go_wp2
      go_loopw [14] (fun i wr => ∃ (k : Nat) (cur : List Sp), k ≤ ps.length ∧ i = .int .i64 k ∧ cur.length = ps.length ∧ Agree cur (ps.map overS) k ∧ Owns wr w0.heap.size (.slice (some ⟨w0.heap.size, 0, none⟩) ps.length ps.length) cur ∧ Below w0.heap.size w0 wr) (fun i _ => ps.length - (intOf i).toNat)
      case atStart => exact ⟨0, _, Nat.zero_le _, rfl, List.length_replicate, fun j hj => by omega, hO.out, hb1⟩
      case round =>
        obtain ⟨k, cur, hk, rfl, hcl, hag, hown, hbw⟩ := hrel
        have hbs : w0.heap.size ≤ wr.heap.size := hbw.size
        have hcl1 : cur.length ≤ ps.length := by omega
        have hcl2 : ps.length ≤ cur.length := by omega
        have hCL := Lib.hid hcl
        clear hcl
        by_cases hlt : k < ps.length
        · obtain ⟨⟨x, y⟩, hxy⟩ : ∃ a, ps[k]? = some a := ⟨_, List.getElem?_eq_getElem hlt⟩
          obtain ⟨c0, c1⟩ := hcell k x y hxy
          have d0 := (hbw.cell (p := ⟨b, off + k * 2, none⟩) (show b < w0.heap.size by omega)).trans ((b0.cell (p := ⟨b, off + k * 2, none⟩) hb).trans c0)
          have d1 := (hbw.cell (p := ⟨b, off + k * 2 + 1, none⟩) (show b < w0.heap.size by omega)).trans ((b0.cell (p := ⟨b, off + k * 2 + 1, none⟩) hb).trans c1)
          have hH := Lib.hid (over_at hxy)
          clear c0 c1 hxy
          have hal : Below wr.heap.size wr (wr.alloc (.cells #[.int .i64 x, .int .i64 y] 53)) := (Below.refl _ _).alloc (Nat.le_refl _) _
          have hown2 := hown.below hal
          have fz := hown2.free
          obtain ⟨px, py, _, q0, q1⟩ := hown2.there (k := k) (by omega)
          go_wp2
          go_roundw
          case rel => exact ⟨k + 1, cur.set k (y, x), by omega, by go_num, by rw [List.length_set]; exact hCL.out, agree_set hag (by omega) hH.out, hown2.set k y x (by omega), ((hbw.trans (hal.mono hbs)).setCell (by simp) _).setCell (by simp) _⟩
          case measure => simp [intOf]; omega
        · have hE := Lib.hid (agree_all (hCL.out.trans (List.length_map _).symm) (fun j hj => hag j (by omega)))
          have e := hE.out
          rw [e] at hown
          clear e
          have hml : (ps.map overS).length = ps.length := List.length_map _
          rw [← hml] at hown
          have hml' := Lib.hid hml
          go_wp2_with fail
          refine (putInOrder_any w0.heap.size (ps.map overS) _ wr (by rw [← hml]; exact hown) hbs (by omega)).mono ?_
          rintro e w2 ⟨v2, l', rfl, hws, hmem, o2, b2⟩
          rw [HD.out l' hws hmem] at o2
          go_wp2
          go_ret
          exact ⟨_, rfl, o2.base b0.size, below_step b0 (hbw.trans b2)⟩
end Go.Proofs.YtkiidmdgdjphjaaGreat
