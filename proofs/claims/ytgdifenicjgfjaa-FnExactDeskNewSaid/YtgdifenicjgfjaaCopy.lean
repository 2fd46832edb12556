/-
  Contracts of the laws' own helpers: toSpot, toSpotS (a copy in new memory), markSpotS and heldSpotS (marks, written and read back), alive. No conditions but those typed.
-/
import Derived.Test.YtgdifenicjgfjaaEq
namespace Go.Proofs.Ytgdifenicjgfjaa
open Go.RowKit Go.Sort

theorem toSpot_any (x y : Int) (w : World) : Calls Try.prog 40 #[.agg #[.int .i64 x, .int .i64 y]] w (Gives (.agg #[.int .i64 x, .int .i64 y]) w) := by
  go_enter Try.func40, Try.ntmps40
  go_wp2
  refine bodyPost_ret (v := .agg #[.int .i64 x, .int .i64 y]) (by simp [results, Try.results40, go_sem]) rfl ⟨rfl, ?_⟩
  exact (((Below.refl _ _).alloc (Nat.le_refl _) _).alloc (by simp) _).alloc (by simp; omega) _

set_option maxHeartbeats 400000 in
theorem toSpotS_any (ps : List Sp) (v : Value) (w : World) (h : Reads w w.heap.size v ps) (hl : ps.length ≤ 1048576) :
    Calls Try.prog 22 #[v] w fun e w' => ∃ v', e = .returned v' ∧ Owns w' w.heap.size v' ps ∧ Below w.heap.size w w' := by
  obtain ⟨A, c, rfl, hc, hm, hA, hr⟩ := h.is
  unfold maxLen at hm
  go_enter Try.func22, Try.ntmps22
  go_wp2_with (at_make; refine wpList_make_spots ps.length (by omega) rfl _ _ rfl _ _ rfl rfl rfl rfl ?_; intro w1 ho1 hg1)
  have hb1 : Below w.heap.size w w1 := (Below.refl _ _).grown hg1 (Nat.le_refl _) (by simp)
  clear hg1
  by_cases h0 : ps.length = 0
  · have e : ps = [] := List.eq_nil_of_length_eq_zero h0
    subst e
    go_rounds 2
    go_ret
    exact ⟨_, rfl, ho1, hb1⟩
  · obtain ⟨b, off, rfl, hb, hcell⟩ := hr (by omega)
    have hO := Lib.hid ho1
    clear ho1
    go_loopw [4] (fun i wr => ∃ (k : Nat) (cur : List Sp), k ≤ ps.length ∧ i = .int .i64 k ∧ cur.length = ps.length ∧ Agree cur ps k ∧ Owns wr w.heap.size (.slice (some ⟨w.heap.size, 0, none⟩) ps.length ps.length) cur ∧ Below w.heap.size w wr) (fun i _ => ps.length - (intOf i).toNat)
    case atStart => exact ⟨0, _, Nat.zero_le _, rfl, List.length_replicate, fun j hj => by omega, hO.out, hb1⟩
    case round =>
      obtain ⟨k, cur, hk, rfl, hcl, hag, hown, hbw⟩ := hrel
      have hbs : w.heap.size ≤ wr.heap.size := hbw.size
      have hcl1 : cur.length ≤ ps.length := by omega
      have hcl2 : ps.length ≤ cur.length := by omega
      have hCL := Lib.hid hcl
      clear hcl
      by_cases hlt : k < ps.length
      · obtain ⟨⟨x, y⟩, hxy⟩ : ∃ a, ps[k]? = some a := ⟨_, List.getElem?_eq_getElem hlt⟩
        obtain ⟨c0, c1⟩ := hcell k x y hxy
        have d0 := (hbw.cell (p := ⟨b, off + k * 2, none⟩) hb).trans c0
        have d1 := (hbw.cell (p := ⟨b, off + k * 2 + 1, none⟩) hb).trans c1
        have hH := Lib.hid hxy
        clear c0 c1 hxy
        go_wp2_with (go_at_call 40; refine (toSpot_any x y _).mono ?_; rintro e w2 ⟨rfl, hb2⟩; have hown2 := hown.below hb2; have fz := hown2.free; obtain ⟨px, py, _, q0, q1⟩ := hown2.there (k := k) (by omega))
        go_roundw
        case rel => exact ⟨k + 1, cur.set k (x, y), by omega, by go_num, by rw [List.length_set]; exact hCL.out, agree_set hag (by omega) hH.out, hown2.set k x y (by omega), ((hbw.trans (hb2.mono hbs)).setCell (by simp) _).setCell (by simp) _⟩
        case measure => simp [intOf]; omega
      · have hE := Lib.hid (agree_all hCL.out (fun j hj => hag j (by omega)))
        go_wp2
        go_ret
        exact ⟨_, rfl, by have e := hE.out; rw [e] at hown; exact hown, hbw⟩
end Go.Proofs.Ytgdifenicjgfjaa
