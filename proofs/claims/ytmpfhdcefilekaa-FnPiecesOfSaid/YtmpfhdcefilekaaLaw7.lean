/- Plain facts that the laws of chapter 7 ask. No program is named. No conditions but those that stand in each theorem. -/
import Derived.Test.YtmpfhdcefilekaaReachP
import Derived.Test.YtmpfhdcefilekaaSumP
namespace Go.Proofs.Ytmpfhdcefilekaa

theorem within7 {a b : List Sp} (ha : picB a = true) (hb : picB b = true) (h : Sub a b) : withinB a b = true := by
  unfold withinB bothB
  rw [ha, hb]
  have e : common a b = a := List.filter_eq_self.2 fun x hx => decide_eq_true (h x hx)
  rw [e]
  exact decide_eq_true rfl
theorem pic_reach {e : Bool} {p m : List Sp} (hp : picB p = true) : picB (reachL e p m) = true := pic_filter hp _
theorem reachR_yes {e : Bool} {p m : List Sp} (h : withinB m p = true) : reachR e p m = reachL e p m := by unfold reachR; rw [h]; rfl
theorem reachR_no {e : Bool} {p m : List Sp} (h : withinB m p = false) : reachR e p m = [] := by unfold reachR; rw [h]; rfl
/-- what the law of ReachedOf asks -/
structure Reached7 (e : Bool) (p m : List Sp) : Prop where
  s : reachR e p m = reachL e p m
  f : reachR false p m = reachL false p m
  a : reachR true p m = reachL true p m
  again : reachR e p (reachL e p m) = reachL e p m
  w1 : withinB m (reachL e p m) = true
  w2 : withinB (reachL e p m) p = true
  w3 : withinB (reachL false p m) (reachL true p m) = true
theorem reached7 {e : Bool} {p m : List Sp} (h : withinB m p = true) : Reached7 e p m := by
  obtain ⟨hm, hp, hs⟩ := within_parts h
  have hps := (picB_pic hp).2.2
  have w2 : withinB (reachL e p m) p = true := within7 (pic_reach hp) hp (reachL_sub e p m)
  exact ⟨reachR_yes h, reachR_yes h, reachR_yes h, by rw [reachR_yes w2, reachL_again hps], within7 hm (pic_reach hp) (sub_reachL hs), w2, within7 (pic_reach hp) (pic_reach hp) (reachL_more p m)⟩
theorem count7_le {p : List Sp} (hp : picB p = true) : countR true p ≤ countR false p := by
  unfold countR
  rw [hp, if_pos rfl, if_pos rfl]
  have := count_eight (picB_pic hp).2.2
  omega
theorem count7_zero {e : Bool} {p : List Sp} (hp : picB p = true) : countR e p = 0 ↔ p.length = 0 := by
  unfold countR
  rw [hp, if_pos rfl]
  have := count_zero (e := e) (picB_pic hp).2.2
  constructor
  · intro h
    rw [this.1 (by omega)]; rfl
  · intro h
    have := this.2 (List.eq_nil_of_length_eq_zero h)
    omega
theorem count7_nonneg {e : Bool} {p : List Sp} (hp : picB p = true) : 0 ≤ countR e p := by
  unfold countR
  rw [hp, if_pos rfl]
  omega
theorem pic_turned7 {p : List Sp} (hp : picB p = true) : picB (turned p) = true := decide_eq_true (pic_turned (picB_pic hp))
theorem count7_turned {e : Bool} {p : List Sp} (hp : picB p = true) : countR e (turned p) = countR e p := by
  unfold countR
  rw [hp, pic_turned7 hp, if_pos rfl, if_pos rfl]
  have hs := (picB_pic hp).2.2
  rw [count_turned hs (sorted_turned hs)]
/-- what the law of PiecesOf asks of each piece -/
structure Piece7 (e : Bool) (p q : List Sp) : Prop where
  pic : picB q = true
  win : withinB q p = true
  reach : reachR e p q = q
  one : (piecesR e q).length = 1
theorem piece7 {e : Bool} {p q : List Sp} (hp : picB p = true) (hq : q ∈ piecesL e p) : Piece7 e p q := by
  obtain ⟨f, hf, rfl⟩ := mem_piecesL.1 hq
  have hs := (picB_pic hp).2.2
  have h1 : picB (pieceL e p f) = true := pic_reach hp
  have h2 : withinB (pieceL e p f) p = true := within7 h1 hp (reachL_sub e p [f])
  refine ⟨h1, h2, by rw [reachR_yes h2, piece_reach hs], ?_⟩
  unfold piecesR
  rw [h1, if_pos rfl, piece_pieces hs hf]
theorem commonL7_nil {a b : List Sp} (h : common a b = []) : commonL a b = [] := by
  unfold commonL
  split
  · exact h
  · rfl
theorem pieces7_apart {e : Bool} {p : List Sp} (hp : picB p = true) {k j : Nat} {q r : List Sp} (hk : (piecesL e p)[k]? = some q) (hj : (piecesL e p)[j]? = some r) (hne : j ≠ k) : commonL q r = [] := by
  have hs := (picB_pic hp).2.2
  unfold piecesL at hk hj
  rw [List.getElem?_map] at hk hj
  obtain ⟨f, hf, rfl⟩ : ∃ f, (firsts e p)[k]? = some f ∧ pieceL e p f = q := by
    cases h : (firsts e p)[k]? with
    | none => rw [h] at hk; cases hk
    | some f => rw [h] at hk; cases hk; exact ⟨f, rfl, rfl⟩
  obtain ⟨g, hg, rfl⟩ : ∃ f, (firsts e p)[j]? = some f ∧ pieceL e p f = r := by
    cases h : (firsts e p)[j]? with
    | none => rw [h] at hj; cases hj
    | some f => rw [h] at hj; cases hj; exact ⟨f, rfl, rfl⟩
  refine commonL7_nil (pieces_apart (List.mem_of_getElem? hf) (List.mem_of_getElem? hg) fun e1 => ?_)
  subst e1
  exact hne (idx_unique (sorted_firsts hs) hg hf)
/-- what the law of HolesOf asks of each hole of at most 60 spots -/
structure Hole7 (p h : List Sp) : Prop where
  pic : picB h = true
  one : (piecesR false h).length = 1
  apart : commonL h p = []
  beside : ∀ a ∈ h, ∀ b ∈ ring4 a, hasB h b = true ∨ hasB p b = true
theorem hole7 {p h : List Sp} (hp : picB p = true) (hh : h ∈ holesL p) (hl : h.length ≤ 60) : Hole7 p h := by
  obtain ⟨f, hF⟩ := hole_is hh
  have h1 := hole_pic hp hF hl
  refine ⟨h1, ?_, commonL7_nil (hole_apart hF), fun a ha b hb => ?_⟩
  · unfold piecesR
    rw [h1, if_pos rfl, hole_pieces hF]
  · rcases hole_beside hF ha hb with k | k
    · left; rw [hasB_yes h1]; exact decide_eq_true k
    · right; rw [hasB_yes hp]; exact decide_eq_true k
end Go.Proofs.Ytmpfhdcefilekaa
