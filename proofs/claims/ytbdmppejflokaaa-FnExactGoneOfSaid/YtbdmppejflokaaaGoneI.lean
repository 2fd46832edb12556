/- The program's GoneOf: what goes at each side. No conditions but those typed. -/
import Derived.Test.YtbdmppejflokaaaSizeI
import Derived.RegionTactic
import Derived.ChangeAlike
namespace Go.Proofs.Ytbdmppejflokaaa
open Go.RowKit Go.Sort

/-- the list behind m rounds -/
def goneSt (ps : List Sp) (m : Nat) : List Int := (List.range 5).map fun j => if j < m then goneN ps j else leftN ps (j + 1)
theorem goneSt_at {ps : List Sp} {m j : Nat} (h : j < 5) : (goneSt ps m)[j]? = some (if j < m then goneN ps j else leftN ps (j + 1)) := by
  unfold goneSt
  rw [List.getElem?_map, List.getElem?_range h]; rfl
theorem goneSt_len (ps : List Sp) (m : Nat) : (goneSt ps m).length = 5 := by unfold goneSt; rw [List.length_map, List.length_range]
theorem goneSt_zero (ps : List Sp) : goneSt ps 0 = sizesUpto ps 5 := rfl
theorem goneSt_end (ps : List Sp) : goneSt ps 4 = goneUpto ps 5 := rfl
theorem goneSt_set (ps : List Sp) {m : Nat} (h : m < 5) : (goneSt ps m).set m (goneN ps m) = goneSt ps (m + 1) := by
  apply List.ext_getElem?
  intro j
  rw [List.getElem?_set, goneSt_len]
  by_cases e : m = j
  · subst e
    rw [if_pos rfl, if_pos h, goneSt_at h, if_pos (by omega)]
  · rw [if_neg e]
    by_cases hj : j < 5
    · rw [goneSt_at hj, goneSt_at hj]
      by_cases hm : j < m
      · rw [if_pos hm, if_pos (by omega)]
      · rw [if_neg hm, if_neg (by omega)]
    · rw [List.getElem?_eq_none (by rw [goneSt_len]; omega), List.getElem?_eq_none (by rw [goneSt_len]; omega)]
theorem intsZ_at {l : List Int} {k : Nat} {x : Int} (h : l[k]? = some x) : (intsZ l)[k]? = some (.int .i64 x) := by unfold intsZ; rw [List.getElem?_map, h]; rfl
theorem intsZ_set (l : List Int) (k : Nat) (x : Int) : (intsZ l).set k (.int .i64 x) = intsZ (l.set k x) := by unfold intsZ; rw [List.map_set]

set_option maxRecDepth 100000 in
set_option maxHeartbeats 1600000 in
theorem implGone_any (ps : List Sp) (v : Value) (w : World) (h : Reads w w.heap.size v ps) : Calls Try.prog 28 #[v] w (GivesInts (goneR ps) w) := by
  rcases hp : picB ps with _ | _
  · have HG := Lib.hid (show goneR ps = [] by unfold goneR; rw [hp]; rfl)
    have HZ := Lib.hid (show sizesR ps = [] by unfold sizesR; rw [hp]; rfl)
    clear hp
    go_enter Try.func28, Try.ntmps28
    go_wp2_with fail
    refine (implSizes_any ps v w h).mono ?_
    rintro e w1 ⟨v1, rfl, o1, b1⟩
    rw [HZ.out] at o1
    obtain ⟨A1, c1, rfl, hc1, hm1, _⟩ := o1.shape
    go_wp2
    go_rounds 2
    go_ret
    exact ⟨_, rfl, by rw [HG.out]; exact o1, b1⟩
  · have HG := Lib.hid (show goneR ps = goneSt ps 4 by unfold goneR; rw [hp, goneSt_end]; rfl)
    have HZ := Lib.hid (show sizesR ps = goneSt ps 0 by unfold sizesR; rw [hp]; rfl)
    have HB : ∀ k, 1 ≤ k → k ≤ 5 → 0 ≤ leftN ps k ∧ leftN ps k ≤ 60 := fun k h1 h2 => ⟨left_nonneg ps k, left_le hp h1 h2⟩
    clear hp
    go_enter Try.func28, Try.ntmps28
    go_wp2_with fail
    refine (implSizes_any ps v w h).mono ?_
    rintro e w1 ⟨v1, rfl, o1, b1⟩
    rw [HZ.out] at o1
    obtain ⟨A1, c1, rfl, hc1, hm1, hA1⟩ := o1.shape
    rw [intsZ_length, goneSt_len] at hc1 hA1 o1 ⊢
    obtain ⟨g, rfl, hg1, hg2⟩ := hA1 (by omega)
    unfold maxLen at hm1
    go_wp2
    go_loopw [4] (fun i wr => ∃ m : Nat, i = .int .i64 ((m : Int) + 1) ∧ m ≤ 4 ∧ VOwns 3 wr w.heap.size (.slice (some ⟨g, 0, none⟩) 5 c1) (intsZ (goneSt ps m)) ∧ Below w.heap.size w wr) (fun i _ => (6 - intOf i).toNat)
    case atStart => exact ⟨0, rfl, by omega, o1, b1⟩
    case round =>
      obtain ⟨m, rfl, hm, hown, hbw⟩ := hrel
      by_cases hlt : m < 4
      · have hd : decide ((m : Int) + 1 < 5) = true := decide_eq_true (by omega)
        have d0 := (hown.cell (k := m) (by rw [intsZ_length, goneSt_len]; omega)).trans (intsZ_at (goneSt_at (ps := ps) (m := m) (j := m) (by omega)))
        have d1 := (hown.cell (k := m + 1) (by rw [intsZ_length, goneSt_len]; omega)).trans (intsZ_at (goneSt_at (ps := ps) (m := m) (j := m + 1) (by omega)))
        rw [if_neg (by omega)] at d0 d1
        have fz := hown.free m
        have HN := Lib.hid (show goneN ps m = leftN ps (m + 1) - leftN ps (m + 1 + 1) by unfold goneN; rw [if_pos (by omega)])
        obtain ⟨B1, B2⟩ := HB (m + 1) (by omega) (by omega)
        obtain ⟨B3, B4⟩ := HB (m + 1 + 1) (by omega) (by omega)
        obtain ⟨a, ha⟩ : ∃ a, leftN ps (m + 1) = a := ⟨_, rfl⟩
        obtain ⟨b, hb⟩ : ∃ b, leftN ps (m + 1 + 1) = b := ⟨_, rfl⟩
        rw [ha, hb] at HN
        rw [ha] at d0 B1 B2
        rw [hb] at d1 B3 B4
        clear ha hb HB
        have i0 : (0 : Int) ≤ (m : Int) := Int.natCast_nonneg _
        have i1 : (m : Int) < 5 := by omega
        have i2 : (m : Int) + 1 < 5 := by omega
        go_wp2_with fail
        go_region
        go_wp2
        go_roundw
        case rel =>
          refine ⟨m + 1, by go_num, by omega, ?_, (hbw.setCell (p := ⟨g, m, none⟩) hg1 _).drew⟩
          have o5 := (hown.set m (.int .i64 (a - b))).below ((Below.refl _ _).drew)
          rw [intsZ_set, ← HN.out, goneSt_set ps (by omega)] at o5
          rw [← HN.out]
          exact o5
        case measure => simp [intOf]; omega
      · have hd : decide ((m : Int) + 1 < 5) = false := decide_eq_false (by omega)
        have hm4 : m = 4 := by omega
        rw [hm4] at hown
        clear hm4
        go_wp2
        go_ret
        exact ⟨_, rfl, by rw [HG.out]; exact hown, hbw⟩
end Go.Proofs.Ytbdmppejflokaaa
