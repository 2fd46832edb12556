/-
  Plain facts on what is reached by neighbours within a list of spots: pieces, holes, filled ones. No program is named. No conditions but those that stand in each theorem.
-/
import Derived.Test.YtmpfhdcefilekaaPlain
namespace Go.Proofs.Ytmpfhdcefilekaa

/-- whether two spots are neighbours, of eight or of four -/
def nearB (e : Bool) (a b : Sp) : Bool := decide (farI a b (if e then 1 else 0) = 1)
theorem nearB_symm (e : Bool) (a b : Sp) : nearB e a b = nearB e b a := by unfold nearB; rw [farI_swap]
theorem near8_iff {a b : Sp} : nearB true a b = true ↔ a ≠ b ∧ -1 ≤ b.1 - a.1 ∧ b.1 - a.1 ≤ 1 ∧ -1 ≤ b.2 - a.2 ∧ b.2 - a.2 ≤ 1 := by
  unfold nearB
  rw [decide_eq_true_eq, if_pos rfl]
  have h0 := farI_nonneg a b 1
  constructor
  · intro h
    refine ⟨fun e => ?_, far1_le.1 (by omega)⟩
    rw [e, farI_zero.2 rfl] at h; omega
  · rintro ⟨h1, h2⟩
    have k := far1_le.2 h2
    have : farI a b 1 ≠ 0 := fun e => h1 (farI_zero.1 e)
    omega
theorem near4_iff {a b : Sp} : nearB false a b = true ↔ b ∈ ring4 a := by
  unfold nearB
  rw [decide_eq_true_eq, if_neg (by decide)]
  exact far0_one
theorem near_more {a b : Sp} (h : nearB false a b = true) : nearB true a b = true := by
  rw [near4_iff] at h
  rw [near8_iff]
  unfold ring4 at h
  simp only [List.mem_cons, List.not_mem_nil, or_false] at h
  rcases h with rfl | rfl | rfl | rfl
  all_goals
    refine ⟨fun k => ?_, by simp only []; omega⟩
    have h1 := congrArg Prod.fst k
    have h2 := congrArg Prod.snd k
    simp only at h1 h2
    omega

/-- one comes from a to it within p, each step to a neighbour -/
def Reach (e : Bool) (p : List Sp) (a b : Sp) : Prop := a ∈ p ∧ ∀ S : Sp → Prop, S a → (∀ x y, S x → y ∈ p → nearB e x y = true → S y) → S b
theorem Reach.refl {e : Bool} {p : List Sp} {a : Sp} (h : a ∈ p) : Reach e p a a := ⟨h, fun _ h0 _ => h0⟩
theorem Reach.step {e : Bool} {p : List Sp} {a b c : Sp} (h : Reach e p a b) (hc : c ∈ p) (hn : nearB e b c = true) : Reach e p a c := ⟨h.1, fun S h1 h2 => h2 _ _ (h.2 S h1 h2) hc hn⟩
theorem Reach.ind {e : Bool} {p : List Sp} {a b : Sp} {M : Sp → Prop} (h : Reach e p a b) (h0 : a ∈ p → M a) (hs : ∀ b c, Reach e p a b → M b → c ∈ p → nearB e b c = true → M c) : M b :=
  (h.2 (fun x => Reach e p a x ∧ M x) ⟨.refl h.1, h0 h.1⟩ (fun x y k hy hn => ⟨k.1.step hy hn, hs x y k.1 k.2 hy hn⟩)).2
theorem Reach.left {e : Bool} {p : List Sp} {a b : Sp} (h : Reach e p a b) : a ∈ p := h.1
theorem Reach.right {e : Bool} {p : List Sp} {a b : Sp} (h : Reach e p a b) : b ∈ p := h.ind (fun h => h) fun _ _ _ _ hc _ => hc
theorem Reach.trans {e : Bool} {p : List Sp} {a b c : Sp} (h : Reach e p a b) (k : Reach e p b c) : Reach e p a c := k.ind (M := fun c => Reach e p a c) (fun _ => h) fun _ _ _ ih h2 h3 => ih.step h2 h3
theorem Reach.symm {e : Bool} {p : List Sp} {a b : Sp} (h : Reach e p a b) : Reach e p b a :=
  h.ind (M := fun b => Reach e p b a) (fun h => .refl h) fun _ _ h1 ih h2 h3 => (Reach.step (.refl h2) h1.right (by rw [nearB_symm]; exact h3)).trans ih
theorem Reach.more {p : List Sp} {a b : Sp} (h : Reach false p a b) : Reach true p a b := h.ind (M := fun b => Reach true p a b) (fun h => .refl h) fun _ _ _ ih h2 h3 => ih.step h2 (near_more h3)
theorem Reach.any {e : Bool} {p : List Sp} {a b : Sp} (h : Reach false p a b) : Reach e p a b := by
  cases e
  · exact h
  · exact h.more
/-- within another list that has all that is reached -/
theorem Reach.within {e : Bool} {p q : List Sp} {a b : Sp} (h : Reach e p a b) (k : ∀ c, Reach e p a c → c ∈ q) : Reach e q a b :=
  h.ind (M := fun b => Reach e q a b) (fun h => .refl (k _ (.refl h))) fun _ _ h1 ih h2 h3 => ih.step (k _ (h1.step h2 h3)) h3
theorem Reach.sub {e : Bool} {p q : List Sp} {a b : Sp} (h : Reach e p a b) (k : Sub p q) : Reach e q a b := h.within fun _ hc => k _ hc.right

/-! ### what is reached from a mark -/
open Classical in
noncomputable def reachL (e : Bool) (p m : List Sp) : List Sp := p.filter fun b => decide (∃ a ∈ m, Reach e p a b)
open Classical in
theorem mem_reachL {e : Bool} {p m : List Sp} {x : Sp} : x ∈ reachL e p m ↔ ∃ a ∈ m, Reach e p a x := by
  unfold reachL
  rw [List.mem_filter, decide_eq_true_eq]
  exact ⟨fun h => h.2, fun h => ⟨by obtain ⟨a, _, k⟩ := h; exact k.right, h⟩⟩
theorem sorted_reachL {e : Bool} {p m : List Sp} (hp : Sorted p) : Sorted (reachL e p m) := sorted_filter hp _
theorem reachL_sub (e : Bool) (p m : List Sp) : Sub (reachL e p m) p := fun _ h => (List.mem_filter.1 h).1
theorem sub_reachL {e : Bool} {p m : List Sp} (h : Sub m p) : Sub m (reachL e p m) := fun x hx => mem_reachL.2 ⟨x, hx, .refl (h x hx)⟩
theorem length_reachL_le (e : Bool) (p m : List Sp) : (reachL e p m).length ≤ p.length := List.length_filter_le _ _
theorem reachL_again {e : Bool} {p m : List Sp} (hp : Sorted p) : reachL e p (reachL e p m) = reachL e p m :=
  sorted_ext (sorted_reachL hp) (sorted_reachL hp) fun x => by
    rw [mem_reachL, mem_reachL]
    constructor
    · rintro ⟨b, hb, h⟩
      obtain ⟨a, ha, k⟩ := mem_reachL.1 hb
      exact ⟨a, ha, k.trans h⟩
    · rintro ⟨a, ha, h⟩
      exact ⟨a, mem_reachL.2 ⟨a, ha, .refl h.left⟩, h⟩
theorem reachL_more (p m : List Sp) : Sub (reachL false p m) (reachL true p m) := fun x hx => by
  obtain ⟨a, ha, h⟩ := mem_reachL.1 hx
  exact mem_reachL.2 ⟨a, ha, h.more⟩

/-! ### pieces -/
open Classical in
/-- the first ones of all pieces -/
noncomputable def firsts (e : Bool) (p : List Sp) : List Sp := p.filter fun a => decide (∀ b, Reach e p a b → ¬ Lt b a)
open Classical in
theorem mem_firsts {e : Bool} {p : List Sp} {a : Sp} : a ∈ firsts e p ↔ a ∈ p ∧ ∀ b, Reach e p a b → ¬ Lt b a := by
  unfold firsts
  rw [List.mem_filter, decide_eq_true_eq]
theorem sorted_firsts {e : Bool} {p : List Sp} (hp : Sorted p) : Sorted (firsts e p) := sorted_filter hp _
theorem firsts_one {e : Bool} {p : List Sp} {a b : Sp} (ha : a ∈ firsts e p) (hb : b ∈ firsts e p) (h : Reach e p a b) : a = b := by
  rcases lt_total a b with k | k | k
  · exact absurd k ((mem_firsts.1 hb).2 _ h.symm)
  · exact k
  · exact absurd k ((mem_firsts.1 ha).2 _ h)
theorem firsts_all {e : Bool} {p : List Sp} (hp : Sorted p) {a : Sp} (ha : a ∈ p) : ∃ f ∈ firsts e p, Reach e p f a := by
  have h0 : a ∈ reachL e p [a] := mem_reachL.2 ⟨a, List.mem_singleton.2 rfl, .refl ha⟩
  have hs := sorted_reachL (e := e) (m := [a]) hp
  rcases hl : reachL e p [a] with _ | ⟨f, l⟩
  · rw [hl] at h0; cases h0
  · rw [hl] at hs
    have hf : f ∈ reachL e p [a] := by rw [hl]; exact List.mem_cons_self ..
    obtain ⟨a', ha', hr⟩ := mem_reachL.1 hf
    rw [List.mem_singleton] at ha'
    subst ha'
    refine ⟨f, mem_firsts.2 ⟨hr.right, fun b hb hlt => ?_⟩, hr.symm⟩
    have hbm : b ∈ reachL e p [a'] := mem_reachL.2 ⟨a', List.mem_singleton.2 rfl, hr.trans hb⟩
    rw [hl] at hbm
    rcases List.mem_cons.1 hbm with rfl | hbm
    · exact lt_irrefl _ hlt
    · exact lt_asymm ((sorted_cons.1 hs).1 _ hbm) hlt
noncomputable def pieceL (e : Bool) (p : List Sp) (a : Sp) : List Sp := reachL e p [a]
theorem mem_pieceL {e : Bool} {p : List Sp} {a x : Sp} : x ∈ pieceL e p a ↔ Reach e p a x := by
  unfold pieceL
  rw [mem_reachL]
  constructor
  · rintro ⟨b, hb, h⟩
    rw [List.mem_singleton] at hb
    subst hb; exact h
  · exact fun h => ⟨a, List.mem_singleton.2 rfl, h⟩
noncomputable def piecesL (e : Bool) (p : List Sp) : List (List Sp) := (firsts e p).map (pieceL e p)
theorem length_piecesL (e : Bool) (p : List Sp) : (piecesL e p).length = (firsts e p).length := by unfold piecesL; rw [List.length_map]
theorem length_firsts_le (e : Bool) (p : List Sp) : (firsts e p).length ≤ p.length := List.length_filter_le _ _
theorem mem_piecesL {e : Bool} {p q : List Sp} : q ∈ piecesL e p ↔ ∃ f ∈ firsts e p, pieceL e p f = q := by
  unfold piecesL; rw [List.mem_map]
/-- from a piece nothing else is reached -/
theorem piece_reach {e : Bool} {p : List Sp} (hp : Sorted p) (a : Sp) : reachL e p (pieceL e p a) = pieceL e p a := reachL_again hp
/-- two pieces have nothing in common -/
theorem pieces_apart {e : Bool} {p : List Sp} {f g : Sp} (hf : f ∈ firsts e p) (hg : g ∈ firsts e p) (hne : f ≠ g) : common (pieceL e p f) (pieceL e p g) = [] := by
  unfold common
  rw [List.filter_eq_nil_iff]
  intro x hx
  rw [decide_eq_true_eq]
  intro hy
  exact hne (firsts_one hf hg ((mem_pieceL.1 hx).trans (mem_pieceL.1 hy).symm))
/-- none has further pieces -/
theorem piece_firsts {e : Bool} {p : List Sp} (hp : Sorted p) {f : Sp} (hf : f ∈ firsts e p) : firsts e (pieceL e p f) = [f] := by
  have hin : ∀ x, Reach e p f x → Reach e (pieceL e p f) f x := fun x hx => hx.within fun c hc => mem_pieceL.2 hc
  have hback : ∀ x y, Reach e (pieceL e p f) x y → Reach e p x y := fun x y h => h.sub fun z hz => (mem_pieceL.1 hz).right
  refine sorted_ext (sorted_firsts (sorted_reachL hp)) (List.pairwise_singleton _ _) fun x => ?_
  rw [List.mem_singleton, mem_firsts]
  have hff := mem_firsts.1 hf
  constructor
  · rintro ⟨h1, h2⟩
    have hx := mem_pieceL.1 h1
    rcases lt_total x f with k | k | k
    · exact absurd k (hff.2 _ hx)
    · exact k
    · exact absurd k (h2 _ (hin x hx).symm)
  · rintro rfl
    exact ⟨mem_pieceL.2 (.refl hff.1), fun b hb => hff.2 _ (hback _ _ hb)⟩
theorem piece_pieces {e : Bool} {p : List Sp} (hp : Sorted p) {f : Sp} (hf : f ∈ firsts e p) : (piecesL e (pieceL e p f)).length = 1 := by
  rw [length_piecesL, piece_firsts hp hf]; rfl

/-! ### counting -/
theorem rel_length {α β : Type} [DecidableEq β] {R : α → β → Prop} : ∀ {F : List α} {G : List β}, F.Nodup → (∀ f ∈ F, ∃ g ∈ G, R f g) → (∀ f ∈ F, ∀ f' ∈ F, ∀ g, R f g → R f' g → f = f') → F.length ≤ G.length
  | [], _, _, _, _ => Nat.zero_le _
  | f :: F, G, hn, h1, h2 => by
    obtain ⟨g, hg, hr⟩ := h1 f (List.mem_cons_self ..)
    obtain ⟨hf, hn'⟩ := List.nodup_cons.1 hn
    have := rel_length (R := R) (F := F) (G := G.erase g) hn' (fun f' hf' => by
      obtain ⟨g', hg', hr'⟩ := h1 f' (List.mem_cons_of_mem _ hf')
      refine ⟨g', (List.mem_erase_of_ne fun e => ?_).2 hg', hr'⟩
      subst e
      have := h2 f (List.mem_cons_self ..) f' (List.mem_cons_of_mem _ hf') g' hr hr'
      rw [this] at hf; exact hf hf') (fun a ha b hb => h2 a (List.mem_cons_of_mem _ ha) b (List.mem_cons_of_mem _ hb))
    rw [List.length_erase_of_mem hg] at this
    have := List.length_pos_of_mem hg
    rw [List.length_cons]; omega
theorem nodup_sorted {p : List Sp} (h : Sorted p) : p.Nodup := List.Pairwise.imp (fun {a b} hab e => by rw [e] at hab; exact lt_irrefl _ hab) h
/-- with eight there are at most as many as with four -/
theorem count_eight {p : List Sp} (hp : Sorted p) : (piecesL true p).length ≤ (piecesL false p).length := by
  rw [length_piecesL, length_piecesL]
  refine rel_length (R := fun a b => a = b) (nodup_sorted (sorted_firsts hp)) (fun f hf => ⟨f, mem_firsts.2 ?_, rfl⟩) (fun f _ f' _ g h h' => h.trans h'.symm)
  have := mem_firsts.1 hf
  exact ⟨this.1, fun b hb => this.2 b hb.more⟩
def negS (a : Sp) : Sp := (-a.1, -a.2)
theorem near_neg (e : Bool) (a b : Sp) : nearB e (negS a) (negS b) = nearB e a b := by
  unfold nearB
  congr 2
  rw [farI_swap a b]
  rw [farI_move (negS a) (negS b), farI_move b a]
  have e1 : (((negS a).1 - (negS b).1, (negS a).2 - (negS b).2) : Sp) = ((b.1 - a.1, b.2 - a.2) : Sp) := by unfold negS; apply sp_ext <;> simp only [] <;> omega
  rw [e1]
theorem mem_turned' {p : List Sp} {a : Sp} : negS a ∈ turned p ↔ a ∈ p := by
  rw [mem_turned]
  constructor
  · rintro ⟨b, hb, h⟩
    have h1 := congrArg Prod.fst h
    have h2 := congrArg Prod.snd h
    unfold negS at h1 h2
    simp only at h1 h2
    have : a = b := sp_ext (by omega) (by omega)
    rw [this]; exact hb
  · exact fun h => ⟨a, h, rfl⟩
theorem Reach.neg {e : Bool} {p : List Sp} {a b : Sp} (h : Reach e p a b) : Reach e (turned p) (negS a) (negS b) :=
  h.ind (M := fun b => Reach e (turned p) (negS a) (negS b)) (fun h => .refl (mem_turned'.2 h)) fun _ _ _ ih h2 h3 => ih.step (mem_turned'.2 h2) (by rw [near_neg]; exact h3)
theorem negS_negS (a : Sp) : negS (negS a) = a := by unfold negS; apply sp_ext <;> simp
theorem count_le_turned {e : Bool} {p q : List Sp} (hp : Sorted p) (hq : Sorted q) (h : ∀ a, a ∈ p → negS a ∈ q) (hr : ∀ a b, Reach e q (negS a) (negS b) → Reach e p a b) : (firsts e p).length ≤ (firsts e q).length :=
  rel_length (R := fun f g => Reach e q (negS f) g) (nodup_sorted (sorted_firsts hp)) (fun f hf => by
    obtain ⟨g, hg, k⟩ := firsts_all (e := e) hq (h f (mem_firsts.1 hf).1)
    exact ⟨g, hg, k.symm⟩) (fun f hf f' hf' g k k' => firsts_one hf hf' (hr _ _ (k.trans k'.symm)))
/-- turned there are as many -/
theorem count_turned {e : Bool} {p : List Sp} (hp : Sorted p) (ht : Sorted (turned p)) : (piecesL e (turned p)).length = (piecesL e p).length := by
  rw [length_piecesL, length_piecesL]
  have hback : ∀ a b, Reach e (turned p) a b → Reach e p (negS a) (negS b) := fun a b h =>
    h.ind (M := fun b => Reach e p (negS a) (negS b)) (fun h => .refl (mem_turned'.1 (by rw [negS_negS]; exact h))) fun _ _ _ ih h2 h3 => ih.step (mem_turned'.1 (by rw [negS_negS]; exact h2)) (by rw [near_neg]; exact h3)
  refine Nat.le_antisymm (count_le_turned ht hp (fun a ha => mem_turned'.1 (by rw [negS_negS]; exact ha)) fun a b h => ?_) (count_le_turned hp ht (fun a ha => mem_turned'.2 ha) fun a b h => ?_)
  · have := h.neg
    rw [negS_negS, negS_negS] at this; exact this
  · have := hback _ _ h
    rw [negS_negS, negS_negS] at this; exact this
theorem count_zero {e : Bool} {p : List Sp} (hp : Sorted p) : (piecesL e p).length = 0 ↔ p = [] := by
  rw [length_piecesL]
  constructor
  · intro h
    rcases p with _ | ⟨a, q⟩
    · rfl
    · obtain ⟨f, hf, _⟩ := firsts_all (e := e) hp (List.mem_cons_self (a := a) (l := q))
      rw [List.eq_nil_of_length_eq_zero h] at hf; cases hf
  · rintro rfl; rfl
theorem sum_zero {α : Type} : ∀ F : List α, (F.map fun _ => 0).sum = 0
  | [] => rfl
  | _ :: F => by rw [List.map_cons, List.sum_cons, sum_zero F]
open Classical in
/-- each spot is in just one: all together are all spots -/
theorem sum_one {α : Type} {R : α → Sp → Prop} : ∀ (p : List Sp) (F : List α), F.Nodup → (∀ x ∈ p, ∃ f ∈ F, R f x) → (∀ x ∈ p, ∀ f ∈ F, ∀ g ∈ F, R f x → R g x → f = g) → (F.map fun f => (p.filter fun x => decide (R f x)).length).sum = p.length
  | [], F, _, _, _ => by
    have : (F.map fun f => (([] : List Sp).filter fun x => decide (R f x)).length) = F.map fun _ => 0 := rfl
    rw [this]
    exact sum_zero F
  | x :: p, F, hn, h1, h2 => by
    have ih := sum_one p F hn (fun y hy => h1 y (List.mem_cons_of_mem _ hy)) (fun y hy => h2 y (List.mem_cons_of_mem _ hy))
    have e : ∀ G : List α, (G.map fun f => ((x :: p).filter fun y => decide (R f y)).length).sum = (G.map fun f => (p.filter fun y => decide (R f y)).length).sum + (G.filter fun f => decide (R f x)).length := by
      intro G
      induction G with
      | nil => rfl
      | cons g G ihG =>
        rw [List.map_cons, List.sum_cons, List.map_cons, List.sum_cons, ihG]
        by_cases hx : R g x
        · rw [List.filter_cons_of_pos (by simpa using hx), List.filter_cons_of_pos (by simpa using hx), List.length_cons, List.length_cons]; omega
        · rw [List.filter_cons_of_neg (by simpa using hx), List.filter_cons_of_neg (by simpa using hx)]; omega
    rw [e F, ih, List.length_cons]
    congr 1
    obtain ⟨f, hf, hr⟩ := h1 x (List.mem_cons_self ..)
    have hone : ∀ g ∈ F, R g x → g = f := fun g hg hg' => h2 x (List.mem_cons_self ..) g hg f hf hg' hr
    clear h1 h2 ih e
    induction F with
    | nil => cases hf
    | cons g G ihG =>
      obtain ⟨hg, hn'⟩ := List.nodup_cons.1 hn
      rcases List.mem_cons.1 hf with rfl | hf
      · rw [List.filter_cons_of_pos (by simpa using hr), List.length_cons]
        have : (G.filter fun g => decide (R g x)) = [] := by
          rw [List.filter_eq_nil_iff]
          intro g' hg' k
          rw [decide_eq_true_eq] at k
          have := hone g' (List.mem_cons_of_mem _ hg') k
          rw [this] at hg'; exact hg hg'
        rw [this]; rfl
      · have hgx : ¬ R g x := fun k => by
          have := hone g (List.mem_cons_self ..) k
          rw [this] at hg; exact hg hf
        rw [List.filter_cons_of_neg (by simpa using hgx)]
        exact ihG hn' hf fun g' hg' => hone g' (List.mem_cons_of_mem _ hg')
theorem pieces_sum {e : Bool} {p : List Sp} (hp : Sorted p) : ((piecesL e p).map List.length).sum = p.length := by
  have hs := sum_one (R := fun f x => Reach e p f x) p (firsts e p) (nodup_sorted (sorted_firsts hp)) (fun x hx => firsts_all hp hx) (fun x _ f hf g hg h k => firsts_one hf hg (h.trans k.symm))
  rw [← hs]
  unfold piecesL
  rw [List.map_map]
  congr 1
  refine List.map_congr_left fun f _ => ?_
  show (pieceL e p f).length = _
  unfold pieceL reachL
  congr 1
  refine List.filter_congr fun x _ => ?_
  congr 1
  apply propext
  constructor
  · rintro ⟨a, ha, h⟩
    rw [List.mem_singleton] at ha
    subst ha; exact h
  · exact fun h => ⟨f, List.mem_singleton.2 rfl, h⟩

/-! ### holes -/
/-- what is in the box and none of the picture -/
def restL (p : List Sp) : List Sp := if p = [] then [] else betw (fun a => !decide (a ∈ p)) (boxL p).1 (boxL p).2
theorem restL_nil : restL [] = [] := rfl
theorem sorted_restL (p : List Sp) : Sorted (restL p) := by
  unfold restL
  split
  · exact List.Pairwise.nil
  · exact sorted_betw _ _ _
theorem mem_restL {p : List Sp} (h0 : p ≠ []) {x : Sp} : x ∈ restL p ↔ ((boxL p).1.1 ≤ x.1 ∧ x.1 ≤ (boxL p).2.1 ∧ (boxL p).1.2 ≤ x.2 ∧ x.2 ≤ (boxL p).2.2) ∧ ¬ x ∈ p := by
  unfold restL
  rw [if_neg h0, mem_betw]
  simp only [Bool.not_eq_true', decide_eq_false_iff_not]
  exact ⟨fun ⟨h1, h2, h3, h4, h5⟩ => ⟨⟨h1, h2, h3, h4⟩, h5⟩, fun ⟨⟨h1, h2, h3, h4⟩, h5⟩ => ⟨h1, h2, h3, h4, h5⟩⟩
/-- strictly within the box -/
def innerB (lo hi : Sp) (q : List Sp) : Bool := q.all fun a => decide (lo.1 < a.1 ∧ a.1 < hi.1 ∧ lo.2 < a.2 ∧ a.2 < hi.2)
theorem innerB_iff {lo hi : Sp} {q : List Sp} : innerB lo hi q = true ↔ ∀ a ∈ q, lo.1 < a.1 ∧ a.1 < hi.1 ∧ lo.2 < a.2 ∧ a.2 < hi.2 := by
  unfold innerB; rw [List.all_eq_true]; simp only [decide_eq_true_eq]
noncomputable def holesL (p : List Sp) : List (List Sp) := (piecesL false (restL p)).filter (innerB (boxL p).1 (boxL p).2)
theorem holesL_nil : holesL [] = [] := rfl
structure Hole (p h : List Sp) (f : Sp) : Prop where
  first : f ∈ firsts false (restL p)
  eq : h = pieceL false (restL p) f
  inner : ∀ a ∈ h, (boxL p).1.1 < a.1 ∧ a.1 < (boxL p).2.1 ∧ (boxL p).1.2 < a.2 ∧ a.2 < (boxL p).2.2
  some' : p ≠ []
theorem hole_is {p h : List Sp} (hh : h ∈ holesL p) : ∃ f, Hole p h f := by
  have h0 : p ≠ [] := fun e => by rw [e] at hh; cases hh
  obtain ⟨h1, h2⟩ := List.mem_filter.1 hh
  obtain ⟨f, hf, e⟩ := mem_piecesL.1 h1
  exact ⟨f, hf, e.symm, innerB_iff.1 h2, h0⟩
theorem hole_in {p h : List Sp} {f : Sp} (hh : Hole p h f) : ∀ a ∈ h, a ∈ restL p := fun a ha => by
  rw [hh.eq] at ha; exact (mem_pieceL.1 ha).right
theorem hole_sorted {p h : List Sp} {f : Sp} (hh : Hole p h f) : Sorted h := by rw [hh.eq]; exact sorted_reachL (sorted_restL p)
theorem hole_pieces {p h : List Sp} {f : Sp} (hh : Hole p h f) : (piecesL false h).length = 1 := by
  rw [hh.eq]; exact piece_pieces (sorted_restL p) hh.first
theorem hole_apart {p h : List Sp} {f : Sp} (hh : Hole p h f) : common h p = [] := by
  unfold common
  rw [List.filter_eq_nil_iff]
  intro x hx
  rw [decide_eq_true_eq]
  exact ((mem_restL hh.some').1 (hole_in hh x hx)).2
/-- each of the four spots beside one of a hole is one of it, or of the picture -/
theorem hole_beside {p h : List Sp} {f : Sp} (hh : Hole p h f) {x y : Sp} (hx : x ∈ h) (hy : y ∈ ring4 x) : y ∈ h ∨ y ∈ p := by
  by_cases hp : y ∈ p
  · exact .inr hp
  · left
    have hi := hh.inner x hx
    have hyr : y ∈ restL p := by
      rw [mem_restL hh.some']
      refine ⟨?_, hp⟩
      unfold ring4 at hy
      simp only [List.mem_cons, List.not_mem_nil, or_false] at hy
      rcases hy with rfl | rfl | rfl | rfl <;> simp only [] <;> omega
    rw [hh.eq] at hx ⊢
    exact mem_pieceL.2 ((mem_pieceL.1 hx).step hyr (near4_iff.2 hy))
theorem box_range {p : List Sp} (hp : picB p = true) (h0 : p ≠ []) : (-30 ≤ (boxL p).1.1 ∧ (boxL p).2.1 ≤ 30) ∧ -30 ≤ (boxL p).1.2 ∧ (boxL p).2.2 ≤ 30 := by
  have := boxL_in (n := 30) h0 (fun a ha => (picB_pic hp).2.1 a ha)
  omega
theorem hole_pic {p h : List Sp} {f : Sp} (hp : picB p = true) (hh : Hole p h f) (hl : h.length ≤ 60) : picB h = true := by
  have hb := box_range hp hh.some'
  refine decide_eq_true ⟨hl, fun a ha => ?_, hole_sorted hh⟩
  have := hh.inner a ha
  unfold InR; omega

/-! ### filled -/
noncomputable def fillL (p : List Sp) : List Sp := puts p (holesL p).flatten
theorem mem_fillL {p : List Sp} {x : Sp} : x ∈ fillL p ↔ x ∈ p ∨ ∃ h ∈ holesL p, x ∈ h := by
  unfold fillL; rw [mem_puts, List.mem_flatten]
theorem sorted_fillL {p : List Sp} (hp : Sorted p) : Sorted (fillL p) := sorted_puts hp
theorem sub_fillL (p : List Sp) : Sub p (fillL p) := fun _ hx => mem_fillL.2 (.inl hx)
theorem fill_in {p : List Sp} {x : Sp} (h : x ∈ fillL p) : (boxL p).1.1 ≤ x.1 ∧ x.1 ≤ (boxL p).2.1 ∧ (boxL p).1.2 ≤ x.2 ∧ x.2 ≤ (boxL p).2.2 := by
  rcases mem_fillL.1 h with h | ⟨q, hq, hx⟩
  · have h0 : p ≠ [] := fun e => by rw [e] at h; cases h
    have := (isBox_boxL h0).all x h
    omega
  · obtain ⟨f, hh⟩ := hole_is hq
    have := hh.inner x hx
    omega
theorem fill_box {p : List Sp} (h0 : p ≠ []) : IsBox (fillL p) (boxL p).1 (boxL p).2 := by
  have b := isBox_boxL h0
  refine ⟨fun a ha => ?_, ?_, ?_, ?_, ?_⟩
  · have := fill_in ha; omega
  · obtain ⟨a, ha, e⟩ := b.lx; exact ⟨a, sub_fillL p a ha, e⟩
  · obtain ⟨a, ha, e⟩ := b.ly; exact ⟨a, sub_fillL p a ha, e⟩
  · obtain ⟨a, ha, e⟩ := b.hx; exact ⟨a, sub_fillL p a ha, e⟩
  · obtain ⟨a, ha, e⟩ := b.hy; exact ⟨a, sub_fillL p a ha, e⟩
theorem fill_some {p : List Sp} (h0 : p ≠ []) : fillL p ≠ [] := fun e => by
  obtain ⟨a, ha, _⟩ := (fill_box h0).lx
  rw [e] at ha; cases ha
theorem fill_boxL {p : List Sp} (h0 : p ≠ []) : boxL (fillL p) = boxL p := by
  have := (isBox_boxL (fill_some h0)).one (fill_box h0)
  exact Prod.ext this.1 this.2
theorem rest_fill {p : List Sp} (h0 : p ≠ []) {x : Sp} : x ∈ restL (fillL p) ↔ x ∈ restL p ∧ ∀ h ∈ holesL p, ¬ x ∈ h := by
  rw [mem_restL (fill_some h0), fill_boxL h0, mem_restL h0, mem_fillL]
  constructor
  · rintro ⟨h1, h2⟩
    exact ⟨⟨h1, fun k => h2 (.inl k)⟩, fun h hh hx => h2 (.inr ⟨h, hh, hx⟩)⟩
  · rintro ⟨⟨h1, h2⟩, h3⟩
    refine ⟨h1, fun k => ?_⟩
    rcases k with k | ⟨h, hh, hx⟩
    · exact h2 k
    · exact h3 h hh hx
/-- filled pictures have no holes -/
theorem fill_holes {p : List Sp} (hs : Sorted p) : holesL (fillL p) = [] := by
  by_cases h0 : p = []
  · subst h0
    have : fillL [] = [] := by unfold fillL; rw [holesL_nil]; rfl
    rw [this, holesL_nil]
  rcases hl : holesL (fillL p) with _ | ⟨h, l⟩
  · rfl
  · exfalso
    obtain ⟨f, hh⟩ := hole_is (show h ∈ holesL (fillL p) by rw [hl]; exact List.mem_cons_self ..)
    have hf := mem_firsts.1 hh.first
    obtain ⟨hfr, hfo⟩ := (rest_fill h0).1 hf.1
    obtain ⟨g, hg, hgf⟩ := firsts_all (e := false) (sorted_restL p) hfr
    have key : ∀ c, Reach false (restL p) f c → c ∈ restL (fillL p) := fun c hc => (rest_fill h0).2 ⟨hc.right, fun q hq hcq => by
      obtain ⟨g', hh'⟩ := hole_is hq
      refine hfo q hq ?_
      rw [hh'.eq] at hcq ⊢
      exact mem_pieceL.2 ((mem_pieceL.1 hcq).trans hc.symm)⟩
    have hin : innerB (boxL p).1 (boxL p).2 (pieceL false (restL p) g) = true := by
      rw [innerB_iff]
      intro a ha
      have hfa : Reach false (restL p) f a := hgf.symm.trans (mem_pieceL.1 ha)
      have := hh.inner a (by rw [hh.eq]; exact mem_pieceL.2 (hfa.within key))
      rw [fill_boxL h0] at this; exact this
    have hm : pieceL false (restL p) g ∈ holesL p := List.mem_filter.2 ⟨mem_piecesL.2 ⟨g, hg, rfl⟩, hin⟩
    exact hfo _ hm (mem_pieceL.2 hgf)
/-- from each spot of a hole one comes to the picture, within what is filled -/
theorem hole_way {p h : List Sp} {f : Sp} (hh : Hole p h f) (hm : h ∈ holesL p) : ∀ (n : Nat) (x : Sp), x ∈ h → x.1 - (boxL p).1.1 ≤ (n : Int) → ∃ a ∈ p, Reach true (fillL p) x a
  | 0, x, hx, hn => by have := hh.inner x hx; omega
  | n + 1, x, hx, hn => by
    have hxs : x ∈ fillL p := mem_fillL.2 (.inr ⟨h, hm, hx⟩)
    have hy : ((x.1 - 1, x.2) : Sp) ∈ ring4 x := by unfold ring4; simp
    have hstep : nearB true x (x.1 - 1, x.2) = true := near_more (near4_iff.2 hy)
    rcases hole_beside hh hx hy with k | k
    · obtain ⟨a, ha, hr⟩ := hole_way hh hm n _ k (by simp only []; omega)
      exact ⟨a, ha, (Reach.step (.refl hxs) hr.left hstep).trans hr⟩
    · exact ⟨_, k, Reach.step (.refl hxs) (sub_fillL p _ k) hstep⟩
/-- at most as many pieces, with eight neighbours -/
theorem fill_count {p : List Sp} (hs : Sorted p) : (piecesL true (fillL p)).length ≤ (piecesL true p).length := by
  rw [length_piecesL, length_piecesL]
  refine rel_length (R := fun f g => Reach true (fillL p) f g) (nodup_sorted (sorted_firsts (sorted_fillL hs))) (fun f hf => ?_) (fun f hf f' hf' g k k' => firsts_one hf hf' (k.trans k'.symm))
  have hff := (mem_firsts.1 hf).1
  obtain ⟨a, ha, hr⟩ : ∃ a ∈ p, Reach true (fillL p) f a := by
    rcases mem_fillL.1 hff with k | ⟨h, hm, hx⟩
    · exact ⟨f, k, .refl hff⟩
    · obtain ⟨g, hh⟩ := hole_is hm
      have := hh.inner f hx
      exact hole_way hh hm (f.1 - (boxL p).1.1).toNat f hx (by omega)
  obtain ⟨g, hg, hga⟩ := firsts_all (e := true) hs ha
  exact ⟨g, hg, hr.trans (hga.sub (sub_fillL p)).symm⟩
end Go.Proofs.Ytmpfhdcefilekaa
