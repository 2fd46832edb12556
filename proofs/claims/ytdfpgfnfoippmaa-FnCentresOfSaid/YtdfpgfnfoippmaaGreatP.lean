/- The program's way to the greatest balls over plain lists: greatest radii first, each held against kept ones alone, then in order again. No conditions but those typed. -/
import Derived.Test.YtdfpgfnfoippmaaGreats
namespace Go.Proofs.Ytdfpgfnfoippmaa
/-- the order of greaterFirst -/
def gfI (a b : Ce) : Int := orI (cmpI b.2 a.2) (ordI a.1 b.1)
def GLt (a b : Ce) : Prop := b.2 < a.2 ∨ (b.2 = a.2 ∧ Lt a.1 b.1)
instance glt_dec (a b : Ce) : Decidable (GLt a b) := by unfold GLt; infer_instance
theorem gfI_neg {a b : Ce} : gfI a b < 0 ↔ GLt a b := by
  have h0 := ordI_neg (a := a.1) (b := b.1)
  unfold gfI GLt orI cmpI
  rcases Int.lt_trichotomy b.2 a.2 with h | h | h
  · simp only [if_pos h]
    rw [if_neg (by decide)]
    exact ⟨fun _ => Or.inl h, fun _ => by decide⟩
  · simp only [if_neg (show ¬ b.2 < a.2 by omega), if_neg (show ¬ a.2 < b.2 by omega)]
    rw [if_pos trivial, h0]
    exact ⟨fun k => Or.inr ⟨h, k⟩, fun k => k.elim (fun k => absurd k (by omega)) fun k => k.2⟩
  · simp only [if_neg (show ¬ b.2 < a.2 by omega), if_pos h]
    rw [if_neg (by decide)]
    exact ⟨fun k => absurd k (by decide), fun k => k.elim (fun k => absurd k (by omega)) fun k => absurd k.1 (by omega)⟩
theorem glt_irrefl (a : Ce) : ¬ GLt a a := by
  rintro (h | h)
  · omega
  · exact lt_irrefl _ h.2
theorem glt_trans {a b c : Ce} (h : GLt a b) (k : GLt b c) : GLt a c := by
  rcases h with h | h <;> rcases k with k | k
  · exact Or.inl (by omega)
  · exact Or.inl (by omega)
  · exact Or.inl (by omega)
  · exact Or.inr ⟨by omega, lt_trans h.2 k.2⟩
theorem glt_total (a b : Ce) : GLt a b ∨ a = b ∨ GLt b a := by
  rcases Int.lt_trichotomy a.2 b.2 with h | h | h
  · exact Or.inr (Or.inr (Or.inl h))
  · rcases lt_total a.1 b.1 with k | k | k
    · exact Or.inl (Or.inr ⟨h.symm, k⟩)
    · exact Or.inr (Or.inl (Prod.ext k h))
    · exact Or.inr (Or.inr (Or.inr ⟨h, k⟩))
  · exact Or.inl (Or.inl h)
/-- whether the ball of c is within that of o -/
def ruleIn (way : Int) (c o : Ce) : Bool := decide (farI c.1 o.1 way ≤ o.2 - c.2)
def keepStep (way : Int) (kept : List Ce) (c : Ce) : List Ce := if kept.any (ruleIn way c) then kept else kept ++ [c]
def keepL (way : Int) (L : List Ce) : List Ce := L.foldl (keepStep way) []
theorem keepL_succ {way : Int} {L : List Ce} {k : Nat} {c : Ce} (h : L[k]? = some c) : keepL way (L.take (k + 1)) = keepStep way (keepL way (L.take k)) c := by
  unfold keepL
  rw [List.take_add_one, h, List.foldl_append]; rfl
theorem keepStep_yes {way : Int} {kept : List Ce} {c : Ce} (h : kept.any (ruleIn way c) = true) : keepStep way kept c = kept := by unfold keepStep; rw [h]; rfl
theorem keepStep_no {way : Int} {kept : List Ce} {c : Ce} (h : kept.any (ruleIn way c) = false) : keepStep way kept c = kept ++ [c] := by unfold keepStep; rw [h]; rfl
theorem keepL_zero (way : Int) (L : List Ce) : keepL way (L.take 0) = [] := rfl
theorem keepStep_mem {way : Int} {kept : List Ce} {c x : Ce} (h : x ∈ keepStep way kept c) : x ∈ kept ∨ x = c := by
  unfold keepStep at h
  split at h
  · exact Or.inl h
  · simpa using h
theorem keepL_len (way : Int) (L : List Ce) : ∀ k, (keepL way (L.take k)).length ≤ k
  | 0 => by rw [keepL_zero]; simp
  | k + 1 => by
    have ih := keepL_len way L k
    rcases h : L[k]? with _ | c
    · rw [List.take_add_one, h, Option.toList_none, List.append_nil]; omega
    · rw [keepL_succ h]
      unfold keepStep
      split
      · omega
      · rw [List.length_append, List.length_singleton]; omega
theorem keepL_mem (way : Int) (L : List Ce) : ∀ k, ∀ x ∈ keepL way (L.take k), x ∈ L
  | 0, x, hx => by rw [keepL_zero] at hx; cases hx
  | k + 1, x, hx => by
    have ih := keepL_mem way L k
    rcases h : L[k]? with _ | c
    · rw [List.take_add_one, h, Option.toList_none, List.append_nil] at hx; exact ih x hx
    · rw [keepL_succ h] at hx
      rcases keepStep_mem hx with e | e
      · exact ih x e
      · rw [e]; exact List.mem_of_getElem? h
theorem centres_nodup (p : List Sp) (way : Int) : (centresL p way).Nodup := by
  rcases h : (picB p && way2 way) with _ | _
  · rw [centres_no h]; exact List.Pairwise.nil
  · rw [Bool.and_eq_true] at h
    rw [centres_yes h.1 h.2]
    unfold List.Nodup
    rw [List.pairwise_map]
    exact (sorted_nodup (picB_pic h.1).2.2).imp fun hne e => hne (congrArg Prod.fst e)
theorem centres_same {p : List Sp} {way : Int} (h : picB p = true) (k : way2 way = true) {c d : Ce} (hc : c ∈ centresL p way) (hd : d ∈ centresL p way) (e : c.1 = d.1) : c = d := by
  have h1 := ((mem_centres h k).1 hc).2
  have h2 := ((mem_centres h k).1 hd).2
  exact Prod.ext e (by rw [h1, h2, e])
theorem keep_any {p : List Sp} {way : Int} (h : picB p = true) (k : way2 way = true) {L : List Ce} (hm : L.Perm (centresL p way)) (hs : L.Pairwise fun a b => ¬ GLt b a) {i : Nat} {c : Ce} (hc : L[i]? = some c) :
    ((L.take i).filter (greatAt (centresL p way) way)).any (ruleIn way c) = !greatAt (centresL p way) way c := by
  have hcL := List.mem_of_getElem? hc
  have hcm := hm.mem_iff.1 hcL
  have hnd := hm.nodup_iff.2 (centres_nodup p way)
  have hi := (List.getElem?_eq_some_iff.1 hc).1
  have hce : L[i] = c := (List.getElem?_eq_some_iff.1 hc).2
  rcases hg : greatAt (centresL p way) way c with _ | _
  · rw [Bool.not_false, List.any_eq_true]
    have hr := radN_rng p c.1 way
    have hc2 := ((mem_centres h k).1 hcm).2
    obtain ⟨d, hd, h1, h2⟩ := great_over h k 3 c hcm (by omega)
    have hd' := List.mem_filter.1 hd
    have hne : c ≠ d := fun e => by rw [e] at hg; rw [hd'.2] at hg; cases hg
    have hlt : c.2 < d.2 := by
      rcases Int.lt_or_eq_of_le h1 with e | e
      · exact e
      · exfalso
        have := farI_nonneg c.1 d.1 way
        exact hne (centres_same h k hcm hd'.1 (farI_zero.1 (show farI c.1 d.1 way = 0 by omega)))
    obtain ⟨j, hj⟩ := List.mem_iff_getElem?.1 (hm.mem_iff.2 hd'.1)
    have hjl := (List.getElem?_eq_some_iff.1 hj).1
    have hje : L[j] = d := (List.getElem?_eq_some_iff.1 hj).2
    have hji : j < i := by
      rcases Nat.lt_trichotomy j i with e | e | e
      · exact e
      · subst e; exact absurd (hce.symm.trans hje) hne
      · exfalso
        have := List.pairwise_iff_getElem.1 hs i j hi hjl e
        rw [hce, hje] at this
        exact this (Or.inl hlt)
    refine ⟨d, List.mem_filter.2 ⟨List.mem_iff_getElem?.2 ⟨j, by rw [List.getElem?_take_of_lt hji]; exact hj⟩, hd'.2⟩, ?_⟩
    unfold ruleIn; rw [decide_eq_true_eq]; exact h2
  · rw [Bool.not_true, Bool.eq_false_iff]
    intro ha
    obtain ⟨o, ho, hr⟩ := List.any_eq_true.1 ha
    have ho' := (List.mem_filter.1 ho).1
    unfold ruleIn at hr
    rw [decide_eq_true_eq] at hr
    have hom := hm.mem_iff.1 (List.mem_of_mem_take ho')
    unfold greatAt at hg
    rw [decide_eq_true_eq] at hg
    have h0 := farI_nonneg c.1 o.1 way
    rcases hg o hom with l | l
    · have e := centres_same h k hcm hom (farI_zero.1 (show farI c.1 o.1 way = 0 by omega))
      subst e
      obtain ⟨j, hj⟩ := List.mem_iff_getElem?.1 ho'
      have hji : j < i := by
        have := (List.getElem?_eq_some_iff.1 hj).1
        rw [List.length_take] at this; omega
      rw [List.getElem?_take_of_lt hji] at hj
      have hjl := (List.getElem?_eq_some_iff.1 hj).1
      have hje : L[j] = c := (List.getElem?_eq_some_iff.1 hj).2
      exact List.pairwise_iff_getElem.1 hnd j i hjl hi hji (hje.trans hce.symm)
    · omega
theorem keep_great {p : List Sp} {way : Int} (h : picB p = true) (k : way2 way = true) {L : List Ce} (hm : L.Perm (centresL p way)) (hs : L.Pairwise fun a b => ¬ GLt b a) : ∀ i, keepL way (L.take i) = (L.take i).filter (greatAt (centresL p way) way)
  | 0 => rfl
  | i + 1 => by
    have ih := keep_great h k hm hs i
    rcases hc : L[i]? with _ | c
    · rw [List.take_add_one, hc, Option.toList_none, List.append_nil]; exact ih
    · have ha := keep_any h k hm hs hc
      rw [keepL_succ hc, ih, List.take_add_one, hc, Option.toList_some, List.filter_append]
      rcases hg : greatAt (centresL p way) way c with _ | _
      · rw [hg] at ha
        rw [keepStep_yes ha]
        simp [hg]
      · rw [hg] at ha
        rw [keepStep_no ha]
        simp [hg]
/-- in order again they are the greatest ones -/
theorem keep_sorted {p : List Sp} {way : Int} (h : picB p = true) (k : way2 way = true) {L K : List Ce} (hm : L.Perm (centresL p way)) (hs : L.Pairwise fun a b => ¬ GLt b a) (hK : K.Perm (keepL way L)) (hKs : K.Pairwise fun a b => ¬ Lt b.1 a.1) : K = greatL p way := by
  have hl := keep_great h k hm hs L.length
  rw [List.take_length] at hl
  rw [hl] at hK
  have hp : K.Perm (greatL p way) := hK.trans (hm.filter _)
  refine List.Perm.eq_of_pairwise (le := fun a b => ¬ Lt b.1 a.1) ?_ hKs ?_ hp
  · intro a b ha hb h1 h2
    have hb' := great_sub p way _ hb
    have ha' := great_sub p way _ (hp.mem_iff.1 ha)
    rcases lt_total a.1 b.1 with e | e | e
    · exact absurd e h2
    · exact centres_same h k ha' hb' e
    · exact absurd e h1
  · refine List.Pairwise.filter _ ?_
    rw [centres_yes h k, List.pairwise_map]
    exact (picB_pic h).2.2.imp fun e => lt_asymm e
structure CentIn (c : Ce) : Prop where
  inr : InR c.1
  lo : 0 ≤ c.2
  hi : c.2 ≤ 3
theorem centres_in {p : List Sp} {way : Int} : ∀ c ∈ centresL p way, CentIn c := fun c hc => by
  rcases h : (picB p && way2 way) with _ | _
  · rw [centres_no h] at hc; cases hc
  · rw [Bool.and_eq_true] at h
    have k := (mem_centres h.1 h.2).1 hc
    have r := radN_rng p c.1 way
    exact ⟨(picB_pic h.1).2.1 _ k.1, by omega, by omega⟩
theorem centres_len (p : List Sp) (way : Int) : (centresL p way).length ≤ 60 := by
  rcases h : (picB p && way2 way) with _ | _
  · rw [centres_no h]; simp
  · rw [Bool.and_eq_true] at h
    rw [centres_yes h.1 h.2, List.length_map]; exact (picB_pic h.1).1
theorem great_final {p : List Sp} {way : Int} (k : way2 way = true) {L K : List Ce} (hm : L.Perm (centresL p way)) (hs : L.Pairwise fun a b => ¬ GLt b a) (hK : K.Perm (keepL way L)) (hKs : K.Pairwise fun a b => ¬ Lt b.1 a.1) : K = greatL p way := by
  rcases h : picB p with _ | _
  · have e : centresL p way = [] := centres_no (by rw [h]; rfl)
    rw [e] at hm
    have e1 := hm.eq_nil
    subst e1
    have e2 := hK.eq_nil
    subst e2
    unfold greatL; rw [e]; rfl
  · exact keep_sorted h k hm hs hK hKs
end Go.Proofs.Ytdfpgfnfoippmaa
