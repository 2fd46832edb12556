/- Texts of one kind, merged: Greats, GreatP. No conditions but those that stand in each theorem. -/
import Derived.Test.YtfofmfkdkihhbadPlain
namespace Go.Proofs.Ytfofmfkdkihhbad
/-! ### Greats -/
/-! ### Greats -/
def way2 (way : Int) : Bool := decide (0 ≤ way ∧ way ≤ 1)
theorem way2_cases {way : Int} (h : way2 way = true) : way = 0 ∨ way = 1 := by unfold way2 at h; rw [decide_eq_true_eq] at h; omega
theorem ball_way2 {r way : Int} (h : way2 way = true) (h0 : 0 ≤ r) (h3 : r ≤ 3) : ballOk r way = true := by
  unfold ballOk wayOk
  rw [Bool.and_eq_true, decide_eq_true_eq, decide_eq_true_eq]
  have := way2_cases h
  omega
/-- the ball about a is within p -/
def ballIn (p : List Sp) (a : Sp) (r way : Int) : Bool := decide (∀ d ∈ ballL r way, addS a d ∈ p)
theorem ballIn_iff {p : List Sp} {a : Sp} {r way : Int} (h : way2 way = true) (h0 : 0 ≤ r) (h3 : r ≤ 3) : ballIn p a r way = true ↔ ∀ b, farI b a way ≤ r → b ∈ p := by
  have hb := ball_way2 h h0 h3
  unfold ballIn
  rw [decide_eq_true_eq]
  constructor
  · intro k b hd
    have := k (b.1 - a.1, b.2 - a.2) ((mem_ball hb).2 (by rw [← farI_move]; exact hd))
    have e : addS a (b.1 - a.1, b.2 - a.2) = b := by unfold addS; apply sp_ext <;> simp only [] <;> omega
    rwa [e] at this
  · intro k d hd
    refine k _ ?_
    have := (mem_ball hb).1 hd
    rw [farI_move]
    have e : (((addS a d).1 - a.1, (addS a d).2 - a.2) : Sp) = d := by unfold addS; apply sp_ext <;> simp only [] <;> omega
    rw [e]; exact this
theorem ballIn_less {p : List Sp} {a : Sp} {r s way : Int} (h : way2 way = true) (h0 : 0 ≤ s) (hs : s ≤ r) (h3 : r ≤ 3) (k : ballIn p a r way = true) : ballIn p a s way = true := by
  rw [ballIn_iff h (by omega) (by omega)] at k ⊢
  exact fun b hb => k b (by omega)
/-- RadiusAt's answer -/
def radOk (p : List Sp) (a : Sp) (way : Int) : Bool := hasB p a && way2 way
def radN (p : List Sp) (a : Sp) (way : Int) : Int := if ballIn p a 3 way then 3 else if ballIn p a 2 way then 2 else if ballIn p a 1 way then 1 else 0
def radI (p : List Sp) (a : Sp) (way : Int) : Int := if radOk p a way then radN p a way else -1
theorem rad_no {p : List Sp} {a : Sp} {way : Int} (h : radOk p a way = false) : radI p a way = -1 := by unfold radI; rw [h]; rfl
theorem rad_yes {p : List Sp} {a : Sp} {way : Int} (h : radOk p a way = true) : radI p a way = radN p a way := by unfold radI; rw [h]; rfl
theorem radN_rng (p : List Sp) (a : Sp) (way : Int) : 0 ≤ radN p a way ∧ radN p a way ≤ 3 := by
  unfold radN
  split
  · omega
  · split
    · omega
    · split <;> omega
theorem rad_neg {p : List Sp} {a : Sp} {way : Int} : radI p a way < 0 ↔ radOk p a way = false := by
  have := radN_rng p a way
  rcases h : radOk p a way with _ | _
  · simp [rad_no h]
  · simp [rad_yes h]; omega
structure RadOk (p : List Sp) (a : Sp) (way : Int) : Prop where
  pp : picB p = true
  pa : a ∈ p
  pw : way2 way = true
theorem radOk_iff {p : List Sp} {a : Sp} {way : Int} : radOk p a way = true ↔ RadOk p a way := by
  unfold radOk
  rw [Bool.and_eq_true]
  constructor
  · rintro ⟨h1, h2⟩
    unfold hasB at h1
    rw [Bool.and_eq_true, decide_eq_true_eq] at h1
    exact ⟨h1.1, h1.2, h2⟩
  · intro h
    exact ⟨by rw [hasB_yes h.pp]; exact decide_eq_true h.pa, h.pw⟩
theorem ballIn_zero {p : List Sp} {a : Sp} {way : Int} (h : way2 way = true) (ha : a ∈ p) : ballIn p a 0 way = true := by
  rw [ballIn_iff h (by omega) (by omega)]
  intro b hb
  have := farI_nonneg b a way
  rw [farI_zero.1 (show farI b a way = 0 by omega)]; exact ha
/-- the ball of the radius is within, and that of one more is not -/
theorem radN_in {p : List Sp} {a : Sp} {way : Int} (h : way2 way = true) (ha : a ∈ p) : ballIn p a (radN p a way) way = true := by
  unfold radN
  split
  · assumption
  · split
    · assumption
    · split
      · assumption
      · exact ballIn_zero h ha
theorem radN_out {p : List Sp} {a : Sp} {way : Int} (h3 : radN p a way < 3) : ballIn p a (radN p a way + 1) way = false := by
  unfold radN at h3 ⊢
  split at h3
  · omega
  · rename_i k3
    rw [if_neg k3]
    split at h3
    · rename_i k2
      rw [if_pos k2]; simpa using k3
    · rename_i k2
      rw [if_neg k2]
      split at h3
      · rename_i k1
        rw [if_pos k1]; simpa using k2
      · rename_i k1
        rw [if_neg k1]; simpa using k1
theorem radN_ge {p : List Sp} {a : Sp} {way r : Int} (h : way2 way = true) (h0 : 0 ≤ r) (h3 : r ≤ 3) (k : ballIn p a r way = true) : r ≤ radN p a way := by
  have hr := radN_rng p a way
  rcases intCases (radN p a way) r with l | l
  · exfalso
    have := radN_out (p := p) (a := a) (way := way) (by omega)
    rw [ballIn_less h (by omega) (show radN p a way + 1 ≤ r by omega) h3 k] at this
    cases this
  · exact l
theorem rad_all {p : List Sp} {a b : Sp} {way : Int} (h : RadOk p a way) (hb : farI b a way ≤ radN p a way) : b ∈ p := by
  have hr := radN_rng p a way
  exact (ballIn_iff h.pw hr.1 hr.2).1 (radN_in h.pw h.pa) b hb
theorem rad_some {p : List Sp} {a : Sp} {way : Int} (h : RadOk p a way) (h3 : radN p a way < 3) : ∃ b, farI b a way = radN p a way + 1 ∧ ¬ b ∈ p := by
  have hr := radN_rng p a way
  have ho := radN_out h3
  have : ¬ ∀ b, farI b a way ≤ radN p a way + 1 → b ∈ p := fun k => by
    rw [(ballIn_iff h.pw (by omega) (by omega)).2 k] at ho; cases ho
  rcases Classical.not_forall.1 this with ⟨b, hb⟩
  rcases Classical.not_imp.1 hb with ⟨h1, h2⟩
  refine ⟨b, ?_, h2⟩
  rcases intCases (radN p a way) (farI b a way) with l | l
  · omega
  · exact absurd (rad_all h l) h2
/-- radii beside each other differ by one -/
theorem rad_beside {p : List Sp} {a b : Sp} {way : Int} (h : RadOk p a way) (hd : farI a b way = 1) : radN p a way - radN p b way ≤ 1 := by
  have ha := radN_rng p a way
  have hb := radN_rng p b way
  rcases intCases (radN p a way) 1 with l | l
  · omega
  · have : ballIn p b (radN p a way - 1) way = true := by
      rw [ballIn_iff h.pw (by omega) (by omega)]
      intro c hc
      refine rad_all h ?_
      have := farI_tri c b a way
      rw [farI_swap b a] at this
      omega
    have := radN_ge h.pw (by omega) (by omega) this
    omega

/-! ### centres -/
abbrev Ce := Sp × Int
def centresL (p : List Sp) (way : Int) : List Ce := if picB p && way2 way then p.map fun a => (a, radN p a way) else []
theorem centres_yes {p : List Sp} {way : Int} (h : picB p = true) (k : way2 way = true) : centresL p way = p.map fun a => (a, radN p a way) := by unfold centresL; rw [h, k]; rfl
theorem centres_no {p : List Sp} {way : Int} (h : (picB p && way2 way) = false) : centresL p way = [] := by unfold centresL; rw [h]; rfl
/-- no other one of a greater radius has its ball -/
def greatAt (all : List Ce) (way : Int) (c : Ce) : Bool := decide (∀ d ∈ all, d.2 ≤ c.2 ∨ d.2 - c.2 < farI c.1 d.1 way)
def greatL (p : List Sp) (way : Int) : List Ce := (centresL p way).filter (greatAt (centresL p way) way)
/-- the ball of a centre -/
def ballAt (way : Int) (c : Ce) : List Sp := (ballL c.2 way).map (addS c.1)
theorem mem_ballAt {way : Int} {c : Ce} (h : ballOk c.2 way = true) {x : Sp} : x ∈ ballAt way c ↔ farI x c.1 way ≤ c.2 := by
  unfold ballAt
  rw [List.mem_map]
  constructor
  · rintro ⟨d, hd, rfl⟩
    have := (mem_ball h).1 hd
    rw [farI_move]
    have e : (((addS c.1 d).1 - c.1.1, (addS c.1 d).2 - c.1.2) : Sp) = d := by unfold addS; apply sp_ext <;> simp only [] <;> omega
    rw [e]; exact this
  · intro k
    refine ⟨(x.1 - c.1.1, x.2 - c.1.2), (mem_ball h).2 (by rw [← farI_move]; exact k), ?_⟩
    unfold addS; apply sp_ext <;> simp only [] <;> omega
/-- the union of all balls -/
def fromL (list : List Ce) (way : Int) : List Sp := puts [] (list.flatMap (ballAt way))
theorem sorted_fromL (list : List Ce) (way : Int) : Sorted (fromL list way) := sorted_puts List.Pairwise.nil
theorem mem_fromL {list : List Ce} {way : Int} {x : Sp} : x ∈ fromL list way ↔ ∃ c ∈ list, x ∈ ballAt way c := by
  unfold fromL
  rw [mem_puts, List.mem_flatMap]; simp
def fromAll (list : List Ce) (way : Int) : Bool := decide (∀ c ∈ list, ballOk c.2 way = true ∧ picB [c.1] = true)
def fromOk (list : List Ce) (way : Int) : Bool := way2 way && (fromAll list way && picB (fromL list way))
def fromR (list : List Ce) (way : Int) : List Sp := if fromOk list way then fromL list way else []
structure From (list : List Ce) (way : Int) : Prop where
  pw : way2 way = true
  all : ∀ c ∈ list, ballOk c.2 way = true ∧ picB [c.1] = true
  pp : picB (fromL list way) = true
  eq : fromR list way = fromL list way
theorem from_is {list : List Ce} {way : Int} (h : fromOk list way = true) : From list way := by
  have k := h
  unfold fromOk fromAll at k
  simp only [Bool.and_eq_true, decide_eq_true_eq] at k
  exact ⟨k.1, k.2.1, k.2.2, by unfold fromR; simp [h]⟩
theorem from_no {list : List Ce} {way : Int} (h : fromOk list way = false) : fromR list way = [] := by unfold fromR; simp [h]
theorem from_yes {list : List Ce} {way : Int} (h1 : way2 way = true) (h2 : ∀ c ∈ list, ballOk c.2 way = true ∧ picB [c.1] = true) (h3 : picB (fromL list way) = true) : fromOk list way = true ∧ fromR list way = fromL list way := by
  have : fromOk list way = true := by
    unfold fromOk fromAll
    simp only [Bool.and_eq_true, decide_eq_true_eq]
    exact ⟨h1, h2, h3⟩
  exact ⟨this, by unfold fromR; simp [this]⟩
theorem mem_centres {p : List Sp} {way : Int} (h : picB p = true) (k : way2 way = true) {c : Ce} : c ∈ centresL p way ↔ c.1 ∈ p ∧ c.2 = radN p c.1 way := by
  rw [centres_yes h k, List.mem_map]
  constructor
  · rintro ⟨a, ha, rfl⟩; exact ⟨ha, rfl⟩
  · rintro ⟨h1, h2⟩; exact ⟨c.1, h1, by rw [← h2]⟩
/-- each centre's ball is within that of a greatest one -/
theorem great_over {p : List Sp} {way : Int} (h : picB p = true) (k : way2 way = true) : ∀ (n : Nat) (c : Ce), c ∈ centresL p way → 3 - c.2 ≤ (n : Int) → ∃ d ∈ greatL p way, c.2 ≤ d.2 ∧ farI c.1 d.1 way ≤ d.2 - c.2
  | n, c, hc, hn => by
    by_cases hg : greatAt (centresL p way) way c = true
    · exact ⟨c, List.mem_filter.2 ⟨hc, hg⟩, Int.le_refl _, by rw [farI_zero.2 rfl]; omega⟩
    · unfold greatAt at hg
      rw [decide_eq_true_eq] at hg
      rcases Classical.not_forall.1 hg with ⟨d, hd⟩
      rcases Classical.not_imp.1 hd with ⟨hd1, hd2⟩
      have hlt : c.2 < d.2 ∧ farI c.1 d.1 way ≤ d.2 - c.2 := by omega
      have hr := radN_rng p d.1 way
      have hdr := ((mem_centres h k).1 hd1).2
      match n with
      | 0 => omega
      | n + 1 =>
        obtain ⟨e, he, h1, h2⟩ := great_over h k n d hd1 (by omega)
        refine ⟨e, he, by omega, ?_⟩
        have := farI_tri c.1 d.1 e.1 way
        omega
theorem great_sub (p : List Sp) (way : Int) : ∀ c ∈ greatL p way, c ∈ centresL p way := fun _ hc => (List.mem_filter.1 hc).1
theorem centre_ok {p : List Sp} {way : Int} (h : picB p = true) (k : way2 way = true) {c : Ce} (hc : c ∈ centresL p way) : ballOk c.2 way = true ∧ picB [c.1] = true := by
  have := (mem_centres h k).1 hc
  have hr := radN_rng p c.1 way
  exact ⟨ball_way2 k (by omega) (by omega), pic_one h _ this.1⟩
/-- a picture is the union of its greatest balls -/
theorem from_great {p : List Sp} {way : Int} (h : picB p = true) (k : way2 way = true) : fromL (greatL p way) way = p := by
  refine sorted_ext (sorted_fromL _ _) (picB_pic h).2.2 fun x => ?_
  rw [mem_fromL]
  constructor
  · rintro ⟨c, hc, hx⟩
    have hc' := great_sub _ _ c hc
    rw [mem_ballAt (centre_ok h k hc').1] at hx
    have hm := (mem_centres h k).1 hc'
    exact rad_all ⟨h, hm.1, k⟩ (by rw [← hm.2]; exact hx)
  · intro hx
    have hc : ((x, radN p x way) : Ce) ∈ centresL p way := (mem_centres h k).2 ⟨hx, rfl⟩
    have hr := radN_rng p x way
    obtain ⟨d, hd, h1, h2⟩ := great_over h k 3 _ hc (by simp only []; omega)
    refine ⟨d, hd, (mem_ballAt (centre_ok h k (great_sub _ _ d hd)).1).2 ?_⟩
    simp only at h1 h2
    omega
theorem great_ok {p : List Sp} {way : Int} (h : picB p = true) (k : way2 way = true) : fromOk (greatL p way) way = true ∧ fromR (greatL p way) way = p := by
  have := from_yes k (fun c hc => centre_ok h k (great_sub _ _ c hc)) (by rw [from_great h k]; exact h)
  exact ⟨this.1, by rw [this.2, from_great h k]⟩
/-- the farthest spot of a ball -/
theorem far_end (c d : Sp) (r way : Int) (h : way2 way = true) (hr : 0 ≤ r) : ∃ x, farI x c way ≤ r ∧ farI c d way + r ≤ farI x d way := by
  rcases way2_cases h with rfl | rfl
  · refine ⟨(if d.1 ≤ c.1 then c.1 + r else c.1 - r, c.2), ?_, ?_⟩
    · unfold farI absI; simp only [if_true]; split <;> split <;> split <;> omega
    · unfold farI absI; simp only [if_true]; split <;> split <;> split <;> split <;> omega
  · by_cases hxy : absI (c.2 - d.2) ≤ absI (c.1 - d.1)
    · refine ⟨(if d.1 ≤ c.1 then c.1 + r else c.1 - r, c.2), ?_, ?_⟩
      · unfold farI; simp only [show ¬ (1 : Int) = 0 by decide, if_false, if_true]
        rw [maxI_le]; unfold absI; constructor <;> split <;> (try split) <;> omega
      · unfold farI; simp only [show ¬ (1 : Int) = 0 by decide, if_false, if_true]
        have e : maxI (absI (c.1 - d.1)) (absI (c.2 - d.2)) = absI (c.1 - d.1) := by unfold maxI; split <;> omega
        rw [e]
        refine Int.le_trans ?_ (le_maxI_left _ _)
        unfold absI; split <;> split <;> split <;> omega
    · refine ⟨(c.1, if d.2 ≤ c.2 then c.2 + r else c.2 - r), ?_, ?_⟩
      · unfold farI; simp only [show ¬ (1 : Int) = 0 by decide, if_false, if_true]
        rw [maxI_le]; unfold absI; constructor <;> split <;> (try split) <;> omega
      · unfold farI; simp only [show ¬ (1 : Int) = 0 by decide, if_false, if_true]
        have e : maxI (absI (c.1 - d.1)) (absI (c.2 - d.2)) = absI (c.2 - d.2) := by unfold maxI; split <;> omega
        rw [e]
        refine Int.le_trans ?_ (le_maxI_right _ _)
        unfold absI; split <;> split <;> split <;> omega
/-- the ball of none is within that of another one of a greater radius -/
theorem great_apart {p : List Sp} {way : Int} (h : picB p = true) (k : way2 way = true) {c d : Ce} (hc : c ∈ greatL p way) (hd : d ∈ greatL p way) (hlt : c.2 < d.2) : ¬ Sub (fromL [c] way) (fromL [d] way) := by
  intro hs
  have hco := centre_ok h k (great_sub _ _ c hc)
  have hdo := centre_ok h k (great_sub _ _ d hd)
  have hc0 : 0 ≤ c.2 := by have := hco.1; unfold ballOk at this; rw [Bool.and_eq_true, decide_eq_true_eq] at this; omega
  obtain ⟨x, h1, h2⟩ := far_end c.1 d.1 c.2 way k hc0
  have hx := hs x (mem_fromL.2 ⟨c, by simp, (mem_ballAt hco.1).2 h1⟩)
  obtain ⟨e, he, hx2⟩ := mem_fromL.1 hx
  rw [List.mem_singleton] at he
  subst he
  rw [mem_ballAt hdo.1] at hx2
  have hg := (List.mem_filter.1 hc).2
  unfold greatAt at hg
  rw [decide_eq_true_eq] at hg
  rcases hg e (great_sub _ _ e hd) with l | l <;> omega
/-- at each centre the radius of the picture is at least its radius -/
theorem from_radius {list : List Ce} {way : Int} (h : fromOk list way = true) {c : Ce} (hc : c ∈ list) : radOk (fromR list way) c.1 way = true ∧ c.2 ≤ radN (fromR list way) c.1 way := by
  have f := from_is h
  rw [f.eq]
  have hb := (f.all c hc).1
  have hr : 0 ≤ c.2 ∧ c.2 ≤ 3 := by have := hb; unfold ballOk at this; rw [Bool.and_eq_true, decide_eq_true_eq] at this; omega
  have hin : ∀ x, farI x c.1 way ≤ c.2 → x ∈ fromL list way := fun x hx => mem_fromL.2 ⟨c, hc, (mem_ballAt hb).2 hx⟩
  refine ⟨radOk_iff.2 ⟨f.pp, hin c.1 (by rw [farI_zero.2 rfl]; exact hr.1), f.pw⟩, radN_ge f.pw hr.1 hr.2 ?_⟩
  rw [ballIn_iff f.pw hr.1 hr.2]
  exact hin
theorem from_empty {list : List Ce} {way : Int} (h : fromOk list way = true) : list = [] ↔ fromR list way = [] := by
  have f := from_is h
  constructor
  · intro e; rw [f.eq, e]; rfl
  · intro e
    match list, h, e with
    | [], _, _ => rfl
    | c :: l, h, e =>
      exfalso
      have := radOk_iff.1 (from_radius h (List.mem_cons_self ..)).1
      have := this.pa
      rw [e] at this; cases this
/-! ### RadO -/
/-- of the offsets from -4 to 4 both ways, row by row, ahead of row y and place z: whether f holds at one -/
def Seen (f : Sp → Bool) (y z : Int) : Prop := ∃ u v : Int, (-4 ≤ u ∧ u ≤ 4 ∧ -4 ≤ v) ∧ (v < y ∨ v = y ∧ u < z) ∧ f (u, v) = true
theorem seen_start (f : Sp → Bool) : ¬ Seen f (-4) (-4) := by
  rintro ⟨u, v, h1, h2, _⟩; omega
theorem seen_row {f : Sp → Bool} {y z : Int} (hz : 4 < z) : Seen f y z ↔ Seen f (y + 1) (-4) := by
  constructor
  · rintro ⟨u, v, h1, h2, h3⟩; exact ⟨u, v, h1, by omega, h3⟩
  · rintro ⟨u, v, h1, h2, h3⟩; exact ⟨u, v, h1, by omega, h3⟩
theorem seen_yes {f : Sp → Bool} {y z : Int} (hz : -4 ≤ z ∧ z ≤ 4) (hy : -4 ≤ y) (h : f (z, y) = true) : Seen f y (z + 1) := ⟨z, y, ⟨hz.1, hz.2, hy⟩, by omega, h⟩
theorem seen_more {f : Sp → Bool} {y z : Int} (h : Seen f y z) : Seen f y (z + 1) := by
  obtain ⟨u, v, h1, h2, h3⟩ := h
  exact ⟨u, v, h1, by omega, h3⟩
theorem seen_no {f : Sp → Bool} {y z : Int} (h : f (z, y) = false) : Seen f y (z + 1) ↔ Seen f y z := by
  constructor
  · rintro ⟨u, v, h1, h2, h3⟩
    refine ⟨u, v, h1, ?_, h3⟩
    rcases h2 with h2 | ⟨h2, h4⟩
    · exact Or.inl h2
    · right
      refine ⟨h2, ?_⟩
      by_cases e : u = z
      · subst e h2; rw [h] at h3; cases h3
      · omega
  · exact seen_more
/-- how far an offset is from 0 -/
def offD (z y way : Int) : Int := farI (z, y) (0, 0) way
theorem offD_far (a : Sp) (z y way : Int) : farI (a.1 + z, a.2 + y) a way = offD z y way := by
  unfold offD
  rw [farI_move]
  have e : (((a.1 + z, a.2 + y) : Sp).1 - a.1, ((a.1 + z, a.2 + y) : Sp).2 - a.2) = ((z, y) : Sp) := by apply sp_ext <;> simp only [] <;> omega
  rw [e]
theorem offD_0 (z y : Int) : offD z y 0 = max z (-z) + max y (-y) := by
  unfold offD farI absI; simp only [if_true]; split <;> split <;> omega
theorem offD_1 (z y : Int) : offD z y 1 = max (max z (-z)) (max y (-y)) := by
  unfold offD farI maxI absI; simp only [show ¬ (1 : Int) = 0 by decide, if_false, if_true]; split <;> split <;> split <;> omega
/-- what is asked: one farther than the radius, and none of the picture -/
def outside (p : List Sp) (a : Sp) (n way : Int) (d : Sp) : Bool := decide (offD d.1 d.2 way = n + 1) && !hasB p (a.1 + d.1, a.2 + d.2)
theorem outside_end {p : List Sp} {a : Sp} {way : Int} (h : RadOk p a way) (h3 : radN p a way < 3) : Seen (outside p a (radN p a way) way) 5 (-4) := by
  obtain ⟨b, hb, hn⟩ := rad_some h h3
  have hr := radN_rng p a way
  have e1 : a.1 + (b.1 - a.1) = b.1 := by omega
  have e2 : a.2 + (b.2 - a.2) = b.2 := by omega
  have hd : offD (b.1 - a.1) (b.2 - a.2) way = radN p a way + 1 := by
    rw [← offD_far a, e1, e2]; exact hb
  have hs : -4 ≤ b.1 - a.1 ∧ b.1 - a.1 ≤ 4 ∧ -4 ≤ b.2 - a.2 ∧ b.2 - a.2 ≤ 4 := by
    have m1 := Int.le_max_left (b.1 - a.1) (-(b.1 - a.1))
    have m2 := Int.le_max_right (b.1 - a.1) (-(b.1 - a.1))
    have m3 := Int.le_max_left (b.2 - a.2) (-(b.2 - a.2))
    have m4 := Int.le_max_right (b.2 - a.2) (-(b.2 - a.2))
    have m5 := Int.le_max_left (max (b.1 - a.1) (-(b.1 - a.1))) (max (b.2 - a.2) (-(b.2 - a.2)))
    have m6 := Int.le_max_right (max (b.1 - a.1) (-(b.1 - a.1))) (max (b.2 - a.2) (-(b.2 - a.2)))
    rcases way2_cases h.pw with e | e
    · rw [e] at hr h3
      rw [e, offD_0] at hd
      generalize max (b.1 - a.1) (-(b.1 - a.1)) = X at *
      generalize max (b.2 - a.2) (-(b.2 - a.2)) = Y at *
      omega
    · rw [e] at hr h3
      rw [e, offD_1] at hd
      generalize max (max (b.1 - a.1) (-(b.1 - a.1))) (max (b.2 - a.2) (-(b.2 - a.2))) = Z at *
      generalize max (b.1 - a.1) (-(b.1 - a.1)) = X at *
      generalize max (b.2 - a.2) (-(b.2 - a.2)) = Y at *
      omega
  refine ⟨b.1 - a.1, b.2 - a.2, by omega, by omega, ?_⟩
  unfold outside
  simp only []
  rw [hd, e1, e2, decide_eq_true rfl, hasB_yes h.pp]
  simpa using hn
theorem inside_has {p : List Sp} {a : Sp} {way z y : Int} (h : RadOk p a way) (hd : offD z y way ≤ radN p a way) : hasB p (a.1 + z, a.2 + y) = true := by
  rw [hasB_yes h.pp, decide_eq_true_eq]
  exact rad_all h (by rw [offD_far]; exact hd)
/-! ### GreatP -/
/-- the order of greaterFirst -/
def gfI (a b : Ce) : Int := orI (cmpI b.2 a.2) (ordI a.1 b.1)
def GLt (a b : Ce) : Prop := b.2 < a.2 ∨ (b.2 = a.2 ∧ Lt a.1 b.1)
instance glt_dec (a b : Ce) : Decidable (GLt a b) := by unfold GLt; infer_instance
theorem gfI_neg {a b : Ce} : gfI a b < 0 ↔ GLt a b := by
  have h0 := ordI_neg (a := a.1) (b := b.1)
  unfold gfI GLt orI cmpI
  rcases Int.lt_trichotomy b.2 a.2 with h | h | h
  · simp only [if_pos h]
    rw [if_neg (by decide)]
    exact ⟨fun _ => Or.inl h, fun _ => by decide⟩
  · simp only [if_neg (show ¬ b.2 < a.2 by omega), if_neg (show ¬ a.2 < b.2 by omega)]
    rw [if_pos trivial, h0]
    exact ⟨fun k => Or.inr ⟨h, k⟩, fun k => k.elim (fun k => absurd k (by omega)) fun k => k.2⟩
  · simp only [if_neg (show ¬ b.2 < a.2 by omega), if_pos h]
    rw [if_neg (by decide)]
    exact ⟨fun k => absurd k (by decide), fun k => k.elim (fun k => absurd k (by omega)) fun k => absurd k.1 (by omega)⟩
theorem glt_irrefl (a : Ce) : ¬ GLt a a := by
  rintro (h | h)
  · omega
  · exact lt_irrefl _ h.2
theorem glt_trans {a b c : Ce} (h : GLt a b) (k : GLt b c) : GLt a c := by
  rcases h with h | h <;> rcases k with k | k
  · exact Or.inl (by omega)
  · exact Or.inl (by omega)
  · exact Or.inl (by omega)
  · exact Or.inr ⟨by omega, lt_trans h.2 k.2⟩
theorem glt_total (a b : Ce) : GLt a b ∨ a = b ∨ GLt b a := by
  rcases Int.lt_trichotomy a.2 b.2 with h | h | h
  · exact Or.inr (Or.inr (Or.inl h))
  · rcases lt_total a.1 b.1 with k | k | k
    · exact Or.inl (Or.inr ⟨h.symm, k⟩)
    · exact Or.inr (Or.inl (Prod.ext k h))
    · exact Or.inr (Or.inr (Or.inr ⟨h, k⟩))
  · exact Or.inl (Or.inl h)
/-- whether the ball of c is within that of o -/
def ruleIn (way : Int) (c o : Ce) : Bool := decide (farI c.1 o.1 way ≤ o.2 - c.2)
def keepStep (way : Int) (kept : List Ce) (c : Ce) : List Ce := if kept.any (ruleIn way c) then kept else kept ++ [c]
def keepL (way : Int) (L : List Ce) : List Ce := L.foldl (keepStep way) []
theorem keepL_succ {way : Int} {L : List Ce} {k : Nat} {c : Ce} (h : L[k]? = some c) : keepL way (L.take (k + 1)) = keepStep way (keepL way (L.take k)) c := by
  unfold keepL
  rw [List.take_add_one, h, List.foldl_append]; rfl
theorem keepStep_yes {way : Int} {kept : List Ce} {c : Ce} (h : kept.any (ruleIn way c) = true) : keepStep way kept c = kept := by unfold keepStep; rw [h]; rfl
theorem keepStep_no {way : Int} {kept : List Ce} {c : Ce} (h : kept.any (ruleIn way c) = false) : keepStep way kept c = kept ++ [c] := by unfold keepStep; rw [h]; rfl
theorem keepL_zero (way : Int) (L : List Ce) : keepL way (L.take 0) = [] := rfl
theorem keepStep_mem {way : Int} {kept : List Ce} {c x : Ce} (h : x ∈ keepStep way kept c) : x ∈ kept ∨ x = c := by
  unfold keepStep at h
  split at h
  · exact Or.inl h
  · simpa using h
theorem keepL_len (way : Int) (L : List Ce) : ∀ k, (keepL way (L.take k)).length ≤ k
  | 0 => by rw [keepL_zero]; simp
  | k + 1 => by
    have ih := keepL_len way L k
    rcases h : L[k]? with _ | c
    · rw [List.take_add_one, h, Option.toList_none, List.append_nil]; omega
    · rw [keepL_succ h]
      unfold keepStep
      split
      · omega
      · rw [List.length_append, List.length_singleton]; omega
theorem keepL_mem (way : Int) (L : List Ce) : ∀ k, ∀ x ∈ keepL way (L.take k), x ∈ L
  | 0, x, hx => by rw [keepL_zero] at hx; cases hx
  | k + 1, x, hx => by
    have ih := keepL_mem way L k
    rcases h : L[k]? with _ | c
    · rw [List.take_add_one, h, Option.toList_none, List.append_nil] at hx; exact ih x hx
    · rw [keepL_succ h] at hx
      rcases keepStep_mem hx with e | e
      · exact ih x e
      · rw [e]; exact List.mem_of_getElem? h
theorem centres_nodup (p : List Sp) (way : Int) : (centresL p way).Nodup := by
  rcases h : (picB p && way2 way) with _ | _
  · rw [centres_no h]; exact List.Pairwise.nil
  · rw [Bool.and_eq_true] at h
    rw [centres_yes h.1 h.2]
    unfold List.Nodup
    rw [List.pairwise_map]
    exact (sorted_nodup (picB_pic h.1).2.2).imp fun hne e => hne (congrArg Prod.fst e)
theorem centres_same {p : List Sp} {way : Int} (h : picB p = true) (k : way2 way = true) {c d : Ce} (hc : c ∈ centresL p way) (hd : d ∈ centresL p way) (e : c.1 = d.1) : c = d := by
  have h1 := ((mem_centres h k).1 hc).2
  have h2 := ((mem_centres h k).1 hd).2
  exact Prod.ext e (by rw [h1, h2, e])
theorem keep_any {p : List Sp} {way : Int} (h : picB p = true) (k : way2 way = true) {L : List Ce} (hm : L.Perm (centresL p way)) (hs : L.Pairwise fun a b => ¬ GLt b a) {i : Nat} {c : Ce} (hc : L[i]? = some c) :
    ((L.take i).filter (greatAt (centresL p way) way)).any (ruleIn way c) = !greatAt (centresL p way) way c := by
  have hcL := List.mem_of_getElem? hc
  have hcm := hm.mem_iff.1 hcL
  have hnd := hm.nodup_iff.2 (centres_nodup p way)
  have hi := (List.getElem?_eq_some_iff.1 hc).1
  have hce : L[i] = c := (List.getElem?_eq_some_iff.1 hc).2
  rcases hg : greatAt (centresL p way) way c with _ | _
  · rw [Bool.not_false, List.any_eq_true]
    have hr := radN_rng p c.1 way
    have hc2 := ((mem_centres h k).1 hcm).2
    obtain ⟨d, hd, h1, h2⟩ := great_over h k 3 c hcm (by omega)
    have hd' := List.mem_filter.1 hd
    have hne : c ≠ d := fun e => by rw [e] at hg; rw [hd'.2] at hg; cases hg
    have hlt : c.2 < d.2 := by
      rcases Int.lt_or_eq_of_le h1 with e | e
      · exact e
      · exfalso
        have := farI_nonneg c.1 d.1 way
        exact hne (centres_same h k hcm hd'.1 (farI_zero.1 (show farI c.1 d.1 way = 0 by omega)))
    obtain ⟨j, hj⟩ := List.mem_iff_getElem?.1 (hm.mem_iff.2 hd'.1)
    have hjl := (List.getElem?_eq_some_iff.1 hj).1
    have hje : L[j] = d := (List.getElem?_eq_some_iff.1 hj).2
    have hji : j < i := by
      rcases Nat.lt_trichotomy j i with e | e | e
      · exact e
      · subst e; exact absurd (hce.symm.trans hje) hne
      · exfalso
        have := List.pairwise_iff_getElem.1 hs i j hi hjl e
        rw [hce, hje] at this
        exact this (Or.inl hlt)
    refine ⟨d, List.mem_filter.2 ⟨List.mem_iff_getElem?.2 ⟨j, by rw [List.getElem?_take_of_lt hji]; exact hj⟩, hd'.2⟩, ?_⟩
    unfold ruleIn; rw [decide_eq_true_eq]; exact h2
  · rw [Bool.not_true, Bool.eq_false_iff]
    intro ha
    obtain ⟨o, ho, hr⟩ := List.any_eq_true.1 ha
    have ho' := (List.mem_filter.1 ho).1
    unfold ruleIn at hr
    rw [decide_eq_true_eq] at hr
    have hom := hm.mem_iff.1 (List.mem_of_mem_take ho')
    unfold greatAt at hg
    rw [decide_eq_true_eq] at hg
    have h0 := farI_nonneg c.1 o.1 way
    rcases hg o hom with l | l
    · have e := centres_same h k hcm hom (farI_zero.1 (show farI c.1 o.1 way = 0 by omega))
      subst e
      obtain ⟨j, hj⟩ := List.mem_iff_getElem?.1 ho'
      have hji : j < i := by
        have := (List.getElem?_eq_some_iff.1 hj).1
        rw [List.length_take] at this; omega
      rw [List.getElem?_take_of_lt hji] at hj
      have hjl := (List.getElem?_eq_some_iff.1 hj).1
      have hje : L[j] = c := (List.getElem?_eq_some_iff.1 hj).2
      exact List.pairwise_iff_getElem.1 hnd j i hjl hi hji (hje.trans hce.symm)
    · omega
theorem keep_great {p : List Sp} {way : Int} (h : picB p = true) (k : way2 way = true) {L : List Ce} (hm : L.Perm (centresL p way)) (hs : L.Pairwise fun a b => ¬ GLt b a) : ∀ i, keepL way (L.take i) = (L.take i).filter (greatAt (centresL p way) way)
  | 0 => rfl
  | i + 1 => by
    have ih := keep_great h k hm hs i
    rcases hc : L[i]? with _ | c
    · rw [List.take_add_one, hc, Option.toList_none, List.append_nil]; exact ih
    · have ha := keep_any h k hm hs hc
      rw [keepL_succ hc, ih, List.take_add_one, hc, Option.toList_some, List.filter_append]
      rcases hg : greatAt (centresL p way) way c with _ | _
      · rw [hg] at ha
        rw [keepStep_yes ha]
        simp [hg]
      · rw [hg] at ha
        rw [keepStep_no ha]
        simp [hg]
/-- in order again they are the greatest ones -/
theorem keep_sorted {p : List Sp} {way : Int} (h : picB p = true) (k : way2 way = true) {L K : List Ce} (hm : L.Perm (centresL p way)) (hs : L.Pairwise fun a b => ¬ GLt b a) (hK : K.Perm (keepL way L)) (hKs : K.Pairwise fun a b => ¬ Lt b.1 a.1) : K = greatL p way := by
  have hl := keep_great h k hm hs L.length
  rw [List.take_length] at hl
  rw [hl] at hK
  have hp : K.Perm (greatL p way) := hK.trans (hm.filter _)
  refine List.Perm.eq_of_pairwise (le := fun a b => ¬ Lt b.1 a.1) ?_ hKs ?_ hp
  · intro a b ha hb h1 h2
    have hb' := great_sub p way _ hb
    have ha' := great_sub p way _ (hp.mem_iff.1 ha)
    rcases lt_total a.1 b.1 with e | e | e
    · exact absurd e h2
    · exact centres_same h k ha' hb' e
    · exact absurd e h1
  · refine List.Pairwise.filter _ ?_
    rw [centres_yes h k, List.pairwise_map]
    exact (picB_pic h).2.2.imp fun e => lt_asymm e
structure CentIn (c : Ce) : Prop where
  inr : InR c.1
  lo : 0 ≤ c.2
  hi : c.2 ≤ 3
theorem centres_in {p : List Sp} {way : Int} : ∀ c ∈ centresL p way, CentIn c := fun c hc => by
  rcases h : (picB p && way2 way) with _ | _
  · rw [centres_no h] at hc; cases hc
  · rw [Bool.and_eq_true] at h
    have k := (mem_centres h.1 h.2).1 hc
    have r := radN_rng p c.1 way
    exact ⟨(picB_pic h.1).2.1 _ k.1, by omega, by omega⟩
theorem centres_len (p : List Sp) (way : Int) : (centresL p way).length ≤ 60 := by
  rcases h : (picB p && way2 way) with _ | _
  · rw [centres_no h]; simp
  · rw [Bool.and_eq_true] at h
    rw [centres_yes h.1 h.2, List.length_map]; exact (picB_pic h.1).1
theorem great_final {p : List Sp} {way : Int} (k : way2 way = true) {L K : List Ce} (hm : L.Perm (centresL p way)) (hs : L.Pairwise fun a b => ¬ GLt b a) (hK : K.Perm (keepL way L)) (hKs : K.Pairwise fun a b => ¬ Lt b.1 a.1) : K = greatL p way := by
  rcases h : picB p with _ | _
  · have e : centresL p way = [] := centres_no (by rw [h]; rfl)
    rw [e] at hm
    have e1 := hm.eq_nil
    subst e1
    have e2 := hK.eq_nil
    subst e2
    unfold greatL; rw [e]; rfl
  · exact keep_sorted h k hm hs hK hKs
end Go.Proofs.Ytfofmfkdkihhbad
