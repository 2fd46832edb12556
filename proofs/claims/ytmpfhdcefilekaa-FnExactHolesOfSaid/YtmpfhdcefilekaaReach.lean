/- Texts of one kind, merged: Reach, ReachP, Forest, HoleP, SumP, Law7. No conditions but those that stand in each theorem. -/
import Derived.Test.YtmpfhdcefilekaaPlain
namespace Go.Proofs.Ytmpfhdcefilekaa
/-! ### Reach -/
section
/-- whether two spots are neighbours, of eight or of four -/
def nearB (e : Bool) (a b : Sp) : Bool := decide (farI a b (if e then 1 else 0) = 1)
theorem nearB_symm (e : Bool) (a b : Sp) : nearB e a b = nearB e b a := by unfold nearB; rw [farI_swap]
theorem near8_iff {a b : Sp} : nearB true a b = true ↔ a ≠ b ∧ -1 ≤ b.1 - a.1 ∧ b.1 - a.1 ≤ 1 ∧ -1 ≤ b.2 - a.2 ∧ b.2 - a.2 ≤ 1 := by
  unfold nearB
  rw [decide_eq_true_eq, if_pos rfl]
  have h0 := farI_nonneg a b 1
  constructor
  · intro h
    refine ⟨fun e => ?_, far1_le.1 (by omega)⟩
    rw [e, farI_zero.2 rfl] at h; omega
  · rintro ⟨h1, h2⟩
    have k := far1_le.2 h2
    have : farI a b 1 ≠ 0 := fun e => h1 (farI_zero.1 e)
    omega
theorem near4_iff {a b : Sp} : nearB false a b = true ↔ b ∈ ring4 a := by
  unfold nearB
  rw [decide_eq_true_eq, if_neg (by decide)]
  exact far0_one
theorem near_more {a b : Sp} (h : nearB false a b = true) : nearB true a b = true := by
  rw [near4_iff] at h
  rw [near8_iff]
  unfold ring4 at h
  simp only [List.mem_cons, List.not_mem_nil, or_false] at h
  rcases h with rfl | rfl | rfl | rfl
  all_goals
    refine ⟨fun k => ?_, by simp only []; omega⟩
    have h1 := congrArg Prod.fst k
    have h2 := congrArg Prod.snd k
    simp only at h1 h2
    omega

/-- one comes from a to it within p, each step to a neighbour -/
def Reach (e : Bool) (p : List Sp) (a b : Sp) : Prop := a ∈ p ∧ ∀ S : Sp → Prop, S a → (∀ x y, S x → y ∈ p → nearB e x y = true → S y) → S b
theorem Reach.refl {e : Bool} {p : List Sp} {a : Sp} (h : a ∈ p) : Reach e p a a := ⟨h, fun _ h0 _ => h0⟩
theorem Reach.step {e : Bool} {p : List Sp} {a b c : Sp} (h : Reach e p a b) (hc : c ∈ p) (hn : nearB e b c = true) : Reach e p a c := ⟨h.1, fun S h1 h2 => h2 _ _ (h.2 S h1 h2) hc hn⟩
theorem Reach.ind {e : Bool} {p : List Sp} {a b : Sp} {M : Sp → Prop} (h : Reach e p a b) (h0 : a ∈ p → M a) (hs : ∀ b c, Reach e p a b → M b → c ∈ p → nearB e b c = true → M c) : M b :=
  (h.2 (fun x => Reach e p a x ∧ M x) ⟨.refl h.1, h0 h.1⟩ (fun x y k hy hn => ⟨k.1.step hy hn, hs x y k.1 k.2 hy hn⟩)).2
theorem Reach.left {e : Bool} {p : List Sp} {a b : Sp} (h : Reach e p a b) : a ∈ p := h.1
theorem Reach.right {e : Bool} {p : List Sp} {a b : Sp} (h : Reach e p a b) : b ∈ p := h.ind (fun h => h) fun _ _ _ _ hc _ => hc
theorem Reach.trans {e : Bool} {p : List Sp} {a b c : Sp} (h : Reach e p a b) (k : Reach e p b c) : Reach e p a c := k.ind (M := fun c => Reach e p a c) (fun _ => h) fun _ _ _ ih h2 h3 => ih.step h2 h3
theorem Reach.symm {e : Bool} {p : List Sp} {a b : Sp} (h : Reach e p a b) : Reach e p b a :=
  h.ind (M := fun b => Reach e p b a) (fun h => .refl h) fun _ _ h1 ih h2 h3 => (Reach.step (.refl h2) h1.right (by rw [nearB_symm]; exact h3)).trans ih
theorem Reach.more {p : List Sp} {a b : Sp} (h : Reach false p a b) : Reach true p a b := h.ind (M := fun b => Reach true p a b) (fun h => .refl h) fun _ _ _ ih h2 h3 => ih.step h2 (near_more h3)
theorem Reach.any {e : Bool} {p : List Sp} {a b : Sp} (h : Reach false p a b) : Reach e p a b := by
  cases e
  · exact h
  · exact h.more
/-- within another list that has all that is reached -/
theorem Reach.within {e : Bool} {p q : List Sp} {a b : Sp} (h : Reach e p a b) (k : ∀ c, Reach e p a c → c ∈ q) : Reach e q a b :=
  h.ind (M := fun b => Reach e q a b) (fun h => .refl (k _ (.refl h))) fun _ _ h1 ih h2 h3 => ih.step (k _ (h1.step h2 h3)) h3
theorem Reach.sub {e : Bool} {p q : List Sp} {a b : Sp} (h : Reach e p a b) (k : Sub p q) : Reach e q a b := h.within fun _ hc => k _ hc.right

/-! ### what is reached from a mark -/
open Classical in
noncomputable def reachL (e : Bool) (p m : List Sp) : List Sp := p.filter fun b => decide (∃ a ∈ m, Reach e p a b)
open Classical in
theorem mem_reachL {e : Bool} {p m : List Sp} {x : Sp} : x ∈ reachL e p m ↔ ∃ a ∈ m, Reach e p a x := by
  unfold reachL
  rw [List.mem_filter, decide_eq_true_eq]
  exact ⟨fun h => h.2, fun h => ⟨by obtain ⟨a, _, k⟩ := h; exact k.right, h⟩⟩
theorem sorted_reachL {e : Bool} {p m : List Sp} (hp : Sorted p) : Sorted (reachL e p m) := sorted_filter hp _
theorem reachL_sub (e : Bool) (p m : List Sp) : Sub (reachL e p m) p := fun _ h => (List.mem_filter.1 h).1
theorem sub_reachL {e : Bool} {p m : List Sp} (h : Sub m p) : Sub m (reachL e p m) := fun x hx => mem_reachL.2 ⟨x, hx, .refl (h x hx)⟩
theorem length_reachL_le (e : Bool) (p m : List Sp) : (reachL e p m).length ≤ p.length := List.length_filter_le _ _
theorem reachL_again {e : Bool} {p m : List Sp} (hp : Sorted p) : reachL e p (reachL e p m) = reachL e p m :=
  sorted_ext (sorted_reachL hp) (sorted_reachL hp) fun x => by
    rw [mem_reachL, mem_reachL]
    constructor
    · rintro ⟨b, hb, h⟩
      obtain ⟨a, ha, k⟩ := mem_reachL.1 hb
      exact ⟨a, ha, k.trans h⟩
    · rintro ⟨a, ha, h⟩
      exact ⟨a, mem_reachL.2 ⟨a, ha, .refl h.left⟩, h⟩
theorem reachL_more (p m : List Sp) : Sub (reachL false p m) (reachL true p m) := fun x hx => by
  obtain ⟨a, ha, h⟩ := mem_reachL.1 hx
  exact mem_reachL.2 ⟨a, ha, h.more⟩

/-! ### pieces -/
open Classical in
/-- the first ones of all pieces -/
noncomputable def firsts (e : Bool) (p : List Sp) : List Sp := p.filter fun a => decide (∀ b, Reach e p a b → ¬ Lt b a)
open Classical in
theorem mem_firsts {e : Bool} {p : List Sp} {a : Sp} : a ∈ firsts e p ↔ a ∈ p ∧ ∀ b, Reach e p a b → ¬ Lt b a := by
  unfold firsts
  rw [List.mem_filter, decide_eq_true_eq]
theorem sorted_firsts {e : Bool} {p : List Sp} (hp : Sorted p) : Sorted (firsts e p) := sorted_filter hp _
theorem firsts_one {e : Bool} {p : List Sp} {a b : Sp} (ha : a ∈ firsts e p) (hb : b ∈ firsts e p) (h : Reach e p a b) : a = b := by
  rcases lt_total a b with k | k | k
  · exact absurd k ((mem_firsts.1 hb).2 _ h.symm)
  · exact k
  · exact absurd k ((mem_firsts.1 ha).2 _ h)
theorem firsts_all {e : Bool} {p : List Sp} (hp : Sorted p) {a : Sp} (ha : a ∈ p) : ∃ f ∈ firsts e p, Reach e p f a := by
  have h0 : a ∈ reachL e p [a] := mem_reachL.2 ⟨a, List.mem_singleton.2 rfl, .refl ha⟩
  have hs := sorted_reachL (e := e) (m := [a]) hp
  rcases hl : reachL e p [a] with _ | ⟨f, l⟩
  · rw [hl] at h0; cases h0
  · rw [hl] at hs
    have hf : f ∈ reachL e p [a] := by rw [hl]; exact List.mem_cons_self ..
    obtain ⟨a', ha', hr⟩ := mem_reachL.1 hf
    rw [List.mem_singleton] at ha'
    subst ha'
    refine ⟨f, mem_firsts.2 ⟨hr.right, fun b hb hlt => ?_⟩, hr.symm⟩
    have hbm : b ∈ reachL e p [a'] := mem_reachL.2 ⟨a', List.mem_singleton.2 rfl, hr.trans hb⟩
    rw [hl] at hbm
    rcases List.mem_cons.1 hbm with rfl | hbm
    · exact lt_irrefl _ hlt
    · exact lt_asymm ((sorted_cons.1 hs).1 _ hbm) hlt
noncomputable def pieceL (e : Bool) (p : List Sp) (a : Sp) : List Sp := reachL e p [a]
theorem mem_pieceL {e : Bool} {p : List Sp} {a x : Sp} : x ∈ pieceL e p a ↔ Reach e p a x := by
  unfold pieceL
  rw [mem_reachL]
  constructor
  · rintro ⟨b, hb, h⟩
    rw [List.mem_singleton] at hb
    subst hb; exact h
  · exact fun h => ⟨a, List.mem_singleton.2 rfl, h⟩
noncomputable def piecesL (e : Bool) (p : List Sp) : List (List Sp) := (firsts e p).map (pieceL e p)
theorem length_piecesL (e : Bool) (p : List Sp) : (piecesL e p).length = (firsts e p).length := by unfold piecesL; rw [List.length_map]
theorem length_firsts_le (e : Bool) (p : List Sp) : (firsts e p).length ≤ p.length := List.length_filter_le _ _
theorem mem_piecesL {e : Bool} {p q : List Sp} : q ∈ piecesL e p ↔ ∃ f ∈ firsts e p, pieceL e p f = q := by
  unfold piecesL; rw [List.mem_map]
/-- from a piece nothing else is reached -/
theorem piece_reach {e : Bool} {p : List Sp} (hp : Sorted p) (a : Sp) : reachL e p (pieceL e p a) = pieceL e p a := reachL_again hp
/-- two pieces have nothing in common -/
theorem pieces_apart {e : Bool} {p : List Sp} {f g : Sp} (hf : f ∈ firsts e p) (hg : g ∈ firsts e p) (hne : f ≠ g) : common (pieceL e p f) (pieceL e p g) = [] := by
  unfold common
  rw [List.filter_eq_nil_iff]
  intro x hx
  rw [decide_eq_true_eq]
  intro hy
  exact hne (firsts_one hf hg ((mem_pieceL.1 hx).trans (mem_pieceL.1 hy).symm))
/-- none has further pieces -/
theorem piece_firsts {e : Bool} {p : List Sp} (hp : Sorted p) {f : Sp} (hf : f ∈ firsts e p) : firsts e (pieceL e p f) = [f] := by
  have hin : ∀ x, Reach e p f x → Reach e (pieceL e p f) f x := fun x hx => hx.within fun c hc => mem_pieceL.2 hc
  have hback : ∀ x y, Reach e (pieceL e p f) x y → Reach e p x y := fun x y h => h.sub fun z hz => (mem_pieceL.1 hz).right
  refine sorted_ext (sorted_firsts (sorted_reachL hp)) (List.pairwise_singleton _ _) fun x => ?_
  rw [List.mem_singleton, mem_firsts]
  have hff := mem_firsts.1 hf
  constructor
  · rintro ⟨h1, h2⟩
    have hx := mem_pieceL.1 h1
    rcases lt_total x f with k | k | k
    · exact absurd k (hff.2 _ hx)
    · exact k
    · exact absurd k (h2 _ (hin x hx).symm)
  · rintro rfl
    exact ⟨mem_pieceL.2 (.refl hff.1), fun b hb => hff.2 _ (hback _ _ hb)⟩
theorem piece_pieces {e : Bool} {p : List Sp} (hp : Sorted p) {f : Sp} (hf : f ∈ firsts e p) : (piecesL e (pieceL e p f)).length = 1 := by
  rw [length_piecesL, piece_firsts hp hf]; rfl

/-! ### counting -/
theorem rel_length {α β : Type} [DecidableEq β] {R : α → β → Prop} : ∀ {F : List α} {G : List β}, F.Nodup → (∀ f ∈ F, ∃ g ∈ G, R f g) → (∀ f ∈ F, ∀ f' ∈ F, ∀ g, R f g → R f' g → f = f') → F.length ≤ G.length
  | [], _, _, _, _ => Nat.zero_le _
  | f :: F, G, hn, h1, h2 => by
    obtain ⟨g, hg, hr⟩ := h1 f (List.mem_cons_self ..)
    obtain ⟨hf, hn'⟩ := List.nodup_cons.1 hn
    have := rel_length (R := R) (F := F) (G := G.erase g) hn' (fun f' hf' => by
      obtain ⟨g', hg', hr'⟩ := h1 f' (List.mem_cons_of_mem _ hf')
      refine ⟨g', (List.mem_erase_of_ne fun e => ?_).2 hg', hr'⟩
      subst e
      have := h2 f (List.mem_cons_self ..) f' (List.mem_cons_of_mem _ hf') g' hr hr'
      rw [this] at hf; exact hf hf') (fun a ha b hb => h2 a (List.mem_cons_of_mem _ ha) b (List.mem_cons_of_mem _ hb))
    rw [List.length_erase_of_mem hg] at this
    have := List.length_pos_of_mem hg
    rw [List.length_cons]; omega
theorem nodup_sorted {p : List Sp} (h : Sorted p) : p.Nodup := List.Pairwise.imp (fun {a b} hab e => by rw [e] at hab; exact lt_irrefl _ hab) h
/-- with eight there are at most as many as with four -/
theorem count_eight {p : List Sp} (hp : Sorted p) : (piecesL true p).length ≤ (piecesL false p).length := by
  rw [length_piecesL, length_piecesL]
  refine rel_length (R := fun a b => a = b) (nodup_sorted (sorted_firsts hp)) (fun f hf => ⟨f, mem_firsts.2 ?_, rfl⟩) (fun f _ f' _ g h h' => h.trans h'.symm)
  have := mem_firsts.1 hf
  exact ⟨this.1, fun b hb => this.2 b hb.more⟩
def negS (a : Sp) : Sp := (-a.1, -a.2)
theorem near_neg (e : Bool) (a b : Sp) : nearB e (negS a) (negS b) = nearB e a b := by
  unfold nearB
  congr 2
  rw [farI_swap a b]
  rw [farI_move (negS a) (negS b), farI_move b a]
  have e1 : (((negS a).1 - (negS b).1, (negS a).2 - (negS b).2) : Sp) = ((b.1 - a.1, b.2 - a.2) : Sp) := by unfold negS; apply sp_ext <;> simp only [] <;> omega
  rw [e1]
theorem mem_turned' {p : List Sp} {a : Sp} : negS a ∈ turned p ↔ a ∈ p := by
  rw [mem_turned]
  constructor
  · rintro ⟨b, hb, h⟩
    have h1 := congrArg Prod.fst h
    have h2 := congrArg Prod.snd h
    unfold negS at h1 h2
    simp only at h1 h2
    have : a = b := sp_ext (by omega) (by omega)
    rw [this]; exact hb
  · exact fun h => ⟨a, h, rfl⟩
theorem Reach.neg {e : Bool} {p : List Sp} {a b : Sp} (h : Reach e p a b) : Reach e (turned p) (negS a) (negS b) :=
  h.ind (M := fun b => Reach e (turned p) (negS a) (negS b)) (fun h => .refl (mem_turned'.2 h)) fun _ _ _ ih h2 h3 => ih.step (mem_turned'.2 h2) (by rw [near_neg]; exact h3)
theorem negS_negS (a : Sp) : negS (negS a) = a := by unfold negS; apply sp_ext <;> simp
theorem count_le_turned {e : Bool} {p q : List Sp} (hp : Sorted p) (hq : Sorted q) (h : ∀ a, a ∈ p → negS a ∈ q) (hr : ∀ a b, Reach e q (negS a) (negS b) → Reach e p a b) : (firsts e p).length ≤ (firsts e q).length :=
  rel_length (R := fun f g => Reach e q (negS f) g) (nodup_sorted (sorted_firsts hp)) (fun f hf => by
    obtain ⟨g, hg, k⟩ := firsts_all (e := e) hq (h f (mem_firsts.1 hf).1)
    exact ⟨g, hg, k.symm⟩) (fun f hf f' hf' g k k' => firsts_one hf hf' (hr _ _ (k.trans k'.symm)))
/-- turned there are as many -/
theorem count_turned {e : Bool} {p : List Sp} (hp : Sorted p) (ht : Sorted (turned p)) : (piecesL e (turned p)).length = (piecesL e p).length := by
  rw [length_piecesL, length_piecesL]
  have hback : ∀ a b, Reach e (turned p) a b → Reach e p (negS a) (negS b) := fun a b h =>
    h.ind (M := fun b => Reach e p (negS a) (negS b)) (fun h => .refl (mem_turned'.1 (by rw [negS_negS]; exact h))) fun _ _ _ ih h2 h3 => ih.step (mem_turned'.1 (by rw [negS_negS]; exact h2)) (by rw [near_neg]; exact h3)
  refine Nat.le_antisymm (count_le_turned ht hp (fun a ha => mem_turned'.1 (by rw [negS_negS]; exact ha)) fun a b h => ?_) (count_le_turned hp ht (fun a ha => mem_turned'.2 ha) fun a b h => ?_)
  · have := h.neg
    rw [negS_negS, negS_negS] at this; exact this
  · have := hback _ _ h
    rw [negS_negS, negS_negS] at this; exact this
theorem count_zero {e : Bool} {p : List Sp} (hp : Sorted p) : (piecesL e p).length = 0 ↔ p = [] := by
  rw [length_piecesL]
  constructor
  · intro h
    rcases p with _ | ⟨a, q⟩
    · rfl
    · obtain ⟨f, hf, _⟩ := firsts_all (e := e) hp (List.mem_cons_self (a := a) (l := q))
      rw [List.eq_nil_of_length_eq_zero h] at hf; cases hf
  · rintro rfl; rfl
theorem sum_zero {α : Type} : ∀ F : List α, (F.map fun _ => 0).sum = 0
  | [] => rfl
  | _ :: F => by rw [List.map_cons, List.sum_cons, sum_zero F]
open Classical in
/-- each spot is in just one: all together are all spots -/
theorem sum_one {α : Type} {R : α → Sp → Prop} : ∀ (p : List Sp) (F : List α), F.Nodup → (∀ x ∈ p, ∃ f ∈ F, R f x) → (∀ x ∈ p, ∀ f ∈ F, ∀ g ∈ F, R f x → R g x → f = g) → (F.map fun f => (p.filter fun x => decide (R f x)).length).sum = p.length
  | [], F, _, _, _ => by
    have : (F.map fun f => (([] : List Sp).filter fun x => decide (R f x)).length) = F.map fun _ => 0 := rfl
    rw [this]
    exact sum_zero F
  | x :: p, F, hn, h1, h2 => by
    have ih := sum_one p F hn (fun y hy => h1 y (List.mem_cons_of_mem _ hy)) (fun y hy => h2 y (List.mem_cons_of_mem _ hy))
    have e : ∀ G : List α, (G.map fun f => ((x :: p).filter fun y => decide (R f y)).length).sum = (G.map fun f => (p.filter fun y => decide (R f y)).length).sum + (G.filter fun f => decide (R f x)).length := by
      intro G
      induction G with
      | nil => rfl
      | cons g G ihG =>
        rw [List.map_cons, List.sum_cons, List.map_cons, List.sum_cons, ihG]
        by_cases hx : R g x
        · rw [List.filter_cons_of_pos (by simpa using hx), List.filter_cons_of_pos (by simpa using hx), List.length_cons, List.length_cons]; omega
        · rw [List.filter_cons_of_neg (by simpa using hx), List.filter_cons_of_neg (by simpa using hx)]; omega
    rw [e F, ih, List.length_cons]
    congr 1
    obtain ⟨f, hf, hr⟩ := h1 x (List.mem_cons_self ..)
    have hone : ∀ g ∈ F, R g x → g = f := fun g hg hg' => h2 x (List.mem_cons_self ..) g hg f hf hg' hr
    clear h1 h2 ih e
    induction F with
    | nil => cases hf
    | cons g G ihG =>
      obtain ⟨hg, hn'⟩ := List.nodup_cons.1 hn
      rcases List.mem_cons.1 hf with rfl | hf
      · rw [List.filter_cons_of_pos (by simpa using hr), List.length_cons]
        have : (G.filter fun g => decide (R g x)) = [] := by
          rw [List.filter_eq_nil_iff]
          intro g' hg' k
          rw [decide_eq_true_eq] at k
          have := hone g' (List.mem_cons_of_mem _ hg') k
          rw [this] at hg'; exact hg hg'
        rw [this]; rfl
      · have hgx : ¬ R g x := fun k => by
          have := hone g (List.mem_cons_self ..) k
          rw [this] at hg; exact hg hf
        rw [List.filter_cons_of_neg (by simpa using hgx)]
        exact ihG hn' hf fun g' hg' => hone g' (List.mem_cons_of_mem _ hg')
theorem pieces_sum {e : Bool} {p : List Sp} (hp : Sorted p) : ((piecesL e p).map List.length).sum = p.length := by
  have hs := sum_one (R := fun f x => Reach e p f x) p (firsts e p) (nodup_sorted (sorted_firsts hp)) (fun x hx => firsts_all hp hx) (fun x _ f hf g hg h k => firsts_one hf hg (h.trans k.symm))
  rw [← hs]
  unfold piecesL
  rw [List.map_map]
  congr 1
  refine List.map_congr_left fun f _ => ?_
  show (pieceL e p f).length = _
  unfold pieceL reachL
  congr 1
  refine List.filter_congr fun x _ => ?_
  congr 1
  apply propext
  constructor
  · rintro ⟨a, ha, h⟩
    rw [List.mem_singleton] at ha
    subst ha; exact h
  · exact fun h => ⟨f, List.mem_singleton.2 rfl, h⟩

/-! ### holes -/
/-- what is in the box and none of the picture -/
def restL (p : List Sp) : List Sp := if p = [] then [] else betw (fun a => !decide (a ∈ p)) (boxL p).1 (boxL p).2
theorem restL_nil : restL [] = [] := rfl
theorem sorted_restL (p : List Sp) : Sorted (restL p) := by
  unfold restL
  split
  · exact List.Pairwise.nil
  · exact sorted_betw _ _ _
theorem mem_restL {p : List Sp} (h0 : p ≠ []) {x : Sp} : x ∈ restL p ↔ ((boxL p).1.1 ≤ x.1 ∧ x.1 ≤ (boxL p).2.1 ∧ (boxL p).1.2 ≤ x.2 ∧ x.2 ≤ (boxL p).2.2) ∧ ¬ x ∈ p := by
  unfold restL
  rw [if_neg h0, mem_betw]
  simp only [Bool.not_eq_true', decide_eq_false_iff_not]
  exact ⟨fun ⟨h1, h2, h3, h4, h5⟩ => ⟨⟨h1, h2, h3, h4⟩, h5⟩, fun ⟨⟨h1, h2, h3, h4⟩, h5⟩ => ⟨h1, h2, h3, h4, h5⟩⟩
/-- strictly within the box -/
def innerB (lo hi : Sp) (q : List Sp) : Bool := q.all fun a => decide (lo.1 < a.1 ∧ a.1 < hi.1 ∧ lo.2 < a.2 ∧ a.2 < hi.2)
theorem innerB_iff {lo hi : Sp} {q : List Sp} : innerB lo hi q = true ↔ ∀ a ∈ q, lo.1 < a.1 ∧ a.1 < hi.1 ∧ lo.2 < a.2 ∧ a.2 < hi.2 := by
  unfold innerB; rw [List.all_eq_true]; simp only [decide_eq_true_eq]
noncomputable def holesL (p : List Sp) : List (List Sp) := (piecesL false (restL p)).filter (innerB (boxL p).1 (boxL p).2)
theorem holesL_nil : holesL [] = [] := rfl
structure Hole (p h : List Sp) (f : Sp) : Prop where
  first : f ∈ firsts false (restL p)
  eq : h = pieceL false (restL p) f
  inner : ∀ a ∈ h, (boxL p).1.1 < a.1 ∧ a.1 < (boxL p).2.1 ∧ (boxL p).1.2 < a.2 ∧ a.2 < (boxL p).2.2
  some' : p ≠ []
theorem hole_is {p h : List Sp} (hh : h ∈ holesL p) : ∃ f, Hole p h f := by
  have h0 : p ≠ [] := fun e => by rw [e] at hh; cases hh
  obtain ⟨h1, h2⟩ := List.mem_filter.1 hh
  obtain ⟨f, hf, e⟩ := mem_piecesL.1 h1
  exact ⟨f, hf, e.symm, innerB_iff.1 h2, h0⟩
theorem hole_in {p h : List Sp} {f : Sp} (hh : Hole p h f) : ∀ a ∈ h, a ∈ restL p := fun a ha => by
  rw [hh.eq] at ha; exact (mem_pieceL.1 ha).right
theorem hole_sorted {p h : List Sp} {f : Sp} (hh : Hole p h f) : Sorted h := by rw [hh.eq]; exact sorted_reachL (sorted_restL p)
theorem hole_pieces {p h : List Sp} {f : Sp} (hh : Hole p h f) : (piecesL false h).length = 1 := by
  rw [hh.eq]; exact piece_pieces (sorted_restL p) hh.first
theorem hole_apart {p h : List Sp} {f : Sp} (hh : Hole p h f) : common h p = [] := by
  unfold common
  rw [List.filter_eq_nil_iff]
  intro x hx
  rw [decide_eq_true_eq]
  exact ((mem_restL hh.some').1 (hole_in hh x hx)).2
/-- each of the four spots beside one of a hole is one of it, or of the picture -/
theorem hole_beside {p h : List Sp} {f : Sp} (hh : Hole p h f) {x y : Sp} (hx : x ∈ h) (hy : y ∈ ring4 x) : y ∈ h ∨ y ∈ p := by
  by_cases hp : y ∈ p
  · exact .inr hp
  · left
    have hi := hh.inner x hx
    have hyr : y ∈ restL p := by
      rw [mem_restL hh.some']
      refine ⟨?_, hp⟩
      unfold ring4 at hy
      simp only [List.mem_cons, List.not_mem_nil, or_false] at hy
      rcases hy with rfl | rfl | rfl | rfl <;> simp only [] <;> omega
    rw [hh.eq] at hx ⊢
    exact mem_pieceL.2 ((mem_pieceL.1 hx).step hyr (near4_iff.2 hy))
theorem box_range {p : List Sp} (hp : picB p = true) (h0 : p ≠ []) : (-30 ≤ (boxL p).1.1 ∧ (boxL p).2.1 ≤ 30) ∧ -30 ≤ (boxL p).1.2 ∧ (boxL p).2.2 ≤ 30 := by
  have := boxL_in (n := 30) h0 (fun a ha => (picB_pic hp).2.1 a ha)
  omega
theorem hole_pic {p h : List Sp} {f : Sp} (hp : picB p = true) (hh : Hole p h f) (hl : h.length ≤ 60) : picB h = true := by
  have hb := box_range hp hh.some'
  refine decide_eq_true ⟨hl, fun a ha => ?_, hole_sorted hh⟩
  have := hh.inner a ha
  unfold InR; omega

/-! ### filled -/
noncomputable def fillL (p : List Sp) : List Sp := puts p (holesL p).flatten
theorem mem_fillL {p : List Sp} {x : Sp} : x ∈ fillL p ↔ x ∈ p ∨ ∃ h ∈ holesL p, x ∈ h := by
  unfold fillL; rw [mem_puts, List.mem_flatten]
theorem sorted_fillL {p : List Sp} (hp : Sorted p) : Sorted (fillL p) := sorted_puts hp
theorem sub_fillL (p : List Sp) : Sub p (fillL p) := fun _ hx => mem_fillL.2 (.inl hx)
theorem fill_in {p : List Sp} {x : Sp} (h : x ∈ fillL p) : (boxL p).1.1 ≤ x.1 ∧ x.1 ≤ (boxL p).2.1 ∧ (boxL p).1.2 ≤ x.2 ∧ x.2 ≤ (boxL p).2.2 := by
  rcases mem_fillL.1 h with h | ⟨q, hq, hx⟩
  · have h0 : p ≠ [] := fun e => by rw [e] at h; cases h
    have := (isBox_boxL h0).all x h
    omega
  · obtain ⟨f, hh⟩ := hole_is hq
    have := hh.inner x hx
    omega
theorem fill_box {p : List Sp} (h0 : p ≠ []) : IsBox (fillL p) (boxL p).1 (boxL p).2 := by
  have b := isBox_boxL h0
  refine ⟨fun a ha => ?_, ?_, ?_, ?_, ?_⟩
  · have := fill_in ha; omega
  · obtain ⟨a, ha, e⟩ := b.lx; exact ⟨a, sub_fillL p a ha, e⟩
  · obtain ⟨a, ha, e⟩ := b.ly; exact ⟨a, sub_fillL p a ha, e⟩
  · obtain ⟨a, ha, e⟩ := b.hx; exact ⟨a, sub_fillL p a ha, e⟩
  · obtain ⟨a, ha, e⟩ := b.hy; exact ⟨a, sub_fillL p a ha, e⟩
theorem fill_some {p : List Sp} (h0 : p ≠ []) : fillL p ≠ [] := fun e => by
  obtain ⟨a, ha, _⟩ := (fill_box h0).lx
  rw [e] at ha; cases ha
theorem fill_boxL {p : List Sp} (h0 : p ≠ []) : boxL (fillL p) = boxL p := by
  have := (isBox_boxL (fill_some h0)).one (fill_box h0)
  exact Prod.ext this.1 this.2
theorem rest_fill {p : List Sp} (h0 : p ≠ []) {x : Sp} : x ∈ restL (fillL p) ↔ x ∈ restL p ∧ ∀ h ∈ holesL p, ¬ x ∈ h := by
  rw [mem_restL (fill_some h0), fill_boxL h0, mem_restL h0, mem_fillL]
  constructor
  · rintro ⟨h1, h2⟩
    exact ⟨⟨h1, fun k => h2 (.inl k)⟩, fun h hh hx => h2 (.inr ⟨h, hh, hx⟩)⟩
  · rintro ⟨⟨h1, h2⟩, h3⟩
    refine ⟨h1, fun k => ?_⟩
    rcases k with k | ⟨h, hh, hx⟩
    · exact h2 k
    · exact h3 h hh hx
/-- filled pictures have no holes -/
theorem fill_holes {p : List Sp} (hs : Sorted p) : holesL (fillL p) = [] := by
  by_cases h0 : p = []
  · subst h0
    have : fillL [] = [] := by unfold fillL; rw [holesL_nil]; rfl
    rw [this, holesL_nil]
  rcases hl : holesL (fillL p) with _ | ⟨h, l⟩
  · rfl
  · exfalso
    obtain ⟨f, hh⟩ := hole_is (show h ∈ holesL (fillL p) by rw [hl]; exact List.mem_cons_self ..)
    have hf := mem_firsts.1 hh.first
    obtain ⟨hfr, hfo⟩ := (rest_fill h0).1 hf.1
    obtain ⟨g, hg, hgf⟩ := firsts_all (e := false) (sorted_restL p) hfr
    have key : ∀ c, Reach false (restL p) f c → c ∈ restL (fillL p) := fun c hc => (rest_fill h0).2 ⟨hc.right, fun q hq hcq => by
      obtain ⟨g', hh'⟩ := hole_is hq
      refine hfo q hq ?_
      rw [hh'.eq] at hcq ⊢
      exact mem_pieceL.2 ((mem_pieceL.1 hcq).trans hc.symm)⟩
    have hin : innerB (boxL p).1 (boxL p).2 (pieceL false (restL p) g) = true := by
      rw [innerB_iff]
      intro a ha
      have hfa : Reach false (restL p) f a := hgf.symm.trans (mem_pieceL.1 ha)
      have := hh.inner a (by rw [hh.eq]; exact mem_pieceL.2 (hfa.within key))
      rw [fill_boxL h0] at this; exact this
    have hm : pieceL false (restL p) g ∈ holesL p := List.mem_filter.2 ⟨mem_piecesL.2 ⟨g, hg, rfl⟩, hin⟩
    exact hfo _ hm (mem_pieceL.2 hgf)
/-- from each spot of a hole one comes to the picture, within what is filled -/
theorem hole_way {p h : List Sp} {f : Sp} (hh : Hole p h f) (hm : h ∈ holesL p) : ∀ (n : Nat) (x : Sp), x ∈ h → x.1 - (boxL p).1.1 ≤ (n : Int) → ∃ a ∈ p, Reach true (fillL p) x a
  | 0, x, hx, hn => by have := hh.inner x hx; omega
  | n + 1, x, hx, hn => by
    have hxs : x ∈ fillL p := mem_fillL.2 (.inr ⟨h, hm, hx⟩)
    have hy : ((x.1 - 1, x.2) : Sp) ∈ ring4 x := by unfold ring4; simp
    have hstep : nearB true x (x.1 - 1, x.2) = true := near_more (near4_iff.2 hy)
    rcases hole_beside hh hx hy with k | k
    · obtain ⟨a, ha, hr⟩ := hole_way hh hm n _ k (by simp only []; omega)
      exact ⟨a, ha, (Reach.step (.refl hxs) hr.left hstep).trans hr⟩
    · exact ⟨_, k, Reach.step (.refl hxs) (sub_fillL p _ k) hstep⟩
/-- at most as many pieces, with eight neighbours -/
theorem fill_count {p : List Sp} (hs : Sorted p) : (piecesL true (fillL p)).length ≤ (piecesL true p).length := by
  rw [length_piecesL, length_piecesL]
  refine rel_length (R := fun f g => Reach true (fillL p) f g) (nodup_sorted (sorted_firsts (sorted_fillL hs))) (fun f hf => ?_) (fun f hf f' hf' g k k' => firsts_one hf hf' (k.trans k'.symm))
  have hff := (mem_firsts.1 hf).1
  obtain ⟨a, ha, hr⟩ : ∃ a ∈ p, Reach true (fillL p) f a := by
    rcases mem_fillL.1 hff with k | ⟨h, hm, hx⟩
    · exact ⟨f, k, .refl hff⟩
    · obtain ⟨g, hh⟩ := hole_is hm
      have := hh.inner f hx
      exact hole_way hh hm (f.1 - (boxL p).1.1).toNat f hx (by omega)
  obtain ⟨g, hg, hga⟩ := firsts_all (e := true) hs ha
  exact ⟨g, hg, hr.trans (hga.sub (sub_fillL p)).symm⟩
end
/-! ### ReachP -/
section
/-! ### marks -/
def falses (l : List Bool) : Nat := l.count false
theorem falses_set {l : List Bool} {k : Nat} (h : l[k]? = some false) : falses (l.set k true) + 1 = falses l := by
  unfold falses
  induction l generalizing k with
  | nil => cases h
  | cons b l ih =>
    cases k with
    | zero =>
      rw [List.getElem?_cons_zero] at h
      cases h
      rw [List.set_cons_zero, List.count_cons_self, List.count_cons_of_ne (by decide)]
    | succ k =>
      rw [List.getElem?_cons_succ] at h
      have := ih h
      rw [List.set_cons_succ, List.count_cons, List.count_cons]
      omega
theorem set_true {l : List Bool} {k j : Nat} (h : (l.set k true)[j]? = some true) : l[j]? = some true ∨ j = k := by
  by_cases e : j = k
  · exact .inr e
  · rw [List.getElem?_set_ne (fun h => e h.symm)] at h; exact .inl h
theorem set_keeps {l : List Bool} {k j : Nat} (h : l[j]? = some true) : (l.set k true)[j]? = some true := by
  by_cases e : k = j
  · subst e
    have := (List.getElem?_eq_some_iff.1 h).1
    rw [List.getElem?_set_self this]
  · rw [List.getElem?_set_ne e]; exact h
theorem set_there {l : List Bool} {k : Nat} (h : k < l.length) : (l.set k true)[k]? = some true := by rw [List.getElem?_set_self h]
/-- the number of a neighbour's place around a spot -/
def offI (a b : Sp) : Int := (b.2 - a.2 + 1) * 3 + (b.1 - a.1 + 1)
theorem near_off {e : Bool} {a b : Sp} (h : nearB e a b = true) : 0 ≤ offI a b ∧ offI a b ≤ 8 := by
  have h8 : nearB true a b = true := by
    cases e
    · exact near_more h
    · exact h
  have := (near8_iff.1 h8).2
  unfold offI; omega

/-- what is marked so far: those of before, and what is reached from s; k is being looked at, from its m-th neighbour on -/
structure MarkI (e : Bool) (p : List Sp) (sn0 : List Bool) (s : Sp) (sn : List Bool) (td : List Nat) (k : Nat) (m : Int) : Prop where
  len : sn.length = p.length
  old : ∀ j : Nat, sn0[j]? = some true → sn[j]? = some true
  sound : ∀ (j : Nat) b, p[j]? = some b → sn[j]? = some true → sn0[j]? = some true ∨ Reach e p s b
  todo : ∀ i ∈ td, ∃ a, p[i]? = some a ∧ Reach e p s a
  start : ∃ i : Nat, p[i]? = some s ∧ sn[i]? = some true
  close : ∀ (i j : Nat) a b, sn[i]? = some true → p[i]? = some a → p[j]? = some b → nearB e a b = true → sn[j]? = some true ∨ i ∈ td ∨ (i = k ∧ m ≤ offI a b)
/-- those of before have all their neighbours among them -/
def Closed (e : Bool) (p : List Sp) (sn : List Bool) : Prop := ∀ (i j : Nat) a b, sn[i]? = some true → p[i]? = some a → p[j]? = some b → nearB e a b = true → sn[j]? = some true
theorem MarkI.begin {e : Bool} {p : List Sp} {sn0 : List Bool} {s : Sp} {at' : Nat} (hl : sn0.length = p.length) (hs : p[at']? = some s) (hc : Closed e p sn0) : MarkI e p sn0 s (sn0.set at' true) [at'] 0 9 := by
  have hlt : at' < sn0.length := by have := (List.getElem?_eq_some_iff.1 hs).1; omega
  refine ⟨by rw [List.length_set]; exact hl, fun j h => set_keeps h, fun j b hb h => ?_, fun i hi => ?_, ⟨at', hs, set_there hlt⟩, fun i j a b hi ha hb hn => ?_⟩
  · rcases set_true h with h | rfl
    · exact .inl h
    · rw [hs] at hb; cases hb
      exact .inr (.refl (List.mem_of_getElem? hs))
  · rw [List.mem_singleton] at hi; subst hi
    exact ⟨s, hs, .refl (List.mem_of_getElem? hs)⟩
  · rcases set_true hi with h | rfl
    · exact .inl (set_keeps (hc i j a b h ha hb hn))
    · exact .inr (.inl (List.mem_singleton.2 rfl))
theorem MarkI.pop {e : Bool} {p : List Sp} {sn0 sn : List Bool} {s : Sp} {td : List Nat} {k k' : Nat} (I : MarkI e p sn0 s sn (td ++ [k]) k' 9) : MarkI e p sn0 s sn td k 0 :=
  ⟨I.len, I.old, I.sound, fun i hi => I.todo i (List.mem_append_left _ hi), I.start, fun i j a b hi ha hb hn => by
    rcases I.close i j a b hi ha hb hn with h | h | ⟨_, h⟩
    · exact .inl h
    · rcases List.mem_append.1 h with h | h
      · exact .inr (.inl h)
      · rw [List.mem_singleton] at h
        exact .inr (.inr ⟨h, (near_off hn).1⟩)
    · have := (near_off hn).2; omega⟩
theorem MarkI.popped {e : Bool} {p : List Sp} {sn0 sn : List Bool} {s : Sp} {td : List Nat} {k k' : Nat} {m : Int} (I : MarkI e p sn0 s sn (td ++ [k]) k' m) : ∃ a, p[k]? = some a ∧ Reach e p s a := I.todo k (by simp)
theorem idx_unique {p : List Sp} (hs : Sorted p) {i j : Nat} {a : Sp} (hi : p[i]? = some a) (hj : p[j]? = some a) : i = j := by
  rcases Nat.lt_trichotomy i j with h | h | h
  · exact absurd (steps_of_sorted hs h hi hj) (lt_irrefl _)
  · exact h
  · exact absurd (steps_of_sorted hs h hj hi) (lt_irrefl _)
theorem near_all {e : Bool} {a b : Sp} (hn : nearB e a b = true) : -1 ≤ b.1 - a.1 ∧ b.1 - a.1 ≤ 1 ∧ -1 ≤ b.2 - a.2 ∧ b.2 - a.2 ≤ 1 := by
  have hr : nearB true a b = true := by
    cases e
    · exact near_more hn
    · exact hn
  exact (near8_iff.1 hr).2
/-- the spot at the m-th place around another one -/
theorem off_one {a b c : Sp} (h : offI a b = offI a c) (hb : -1 ≤ b.1 - a.1 ∧ b.1 - a.1 ≤ 1) (hc : -1 ≤ c.1 - a.1 ∧ c.1 - a.1 ≤ 1) : b = c := by
  unfold offI at h
  apply sp_ext <;> omega
/-- the next place has nothing new -/
theorem MarkI.skip {e : Bool} {p : List Sp} {sn0 sn : List Bool} {s : Sp} {td : List Nat} {k : Nat} {m : Int} {a c : Sp} (I : MarkI e p sn0 s sn td k m) (hs : Sorted p) (ha : p[k]? = some a) (hc : offI a c = m) (hcc : -1 ≤ c.1 - a.1 ∧ c.1 - a.1 ≤ 1) (h : nearB e a c = false ∨ (¬ c ∈ p) ∨ ∃ j : Nat, p[j]? = some c ∧ sn[j]? = some true) : MarkI e p sn0 s sn td k (m + 1) :=
  ⟨I.len, I.old, I.sound, I.todo, I.start, fun i j a' b hi ha' hb hn => by
    rcases I.close i j a' b hi ha' hb hn with k1 | k1 | ⟨rfl, k1⟩
    · exact .inl k1
    · exact .inr (.inl k1)
    · rw [ha] at ha'; cases ha'
      by_cases e1 : offI a b = m
      · have hna := near_all hn
        obtain rfl := off_one (e1.trans hc.symm) ⟨hna.1, hna.2.1⟩ hcc
        rcases h with h | h | ⟨j', hj', h⟩
        · rw [hn] at h; cases h
        · exact absurd (List.mem_of_getElem? hb) h
        · obtain rfl := idx_unique hs hb hj'
          exact .inl h
      · exact .inr (.inr ⟨rfl, by omega⟩)⟩
/-- the next place is new -/
theorem MarkI.push {e : Bool} {p : List Sp} {sn0 sn : List Bool} {s : Sp} {td : List Nat} {k : Nat} {m : Int} {a c : Sp} {j : Nat} (I : MarkI e p sn0 s sn td k m) (hs : Sorted p) (ha : p[k]? = some a) (hr : Reach e p s a) (hc : offI a c = m) (hn : nearB e a c = true) (hj : p[j]? = some c) : MarkI e p sn0 s (sn.set j true) (td ++ [j]) k (m + 1) := by
  have hjl : j < sn.length := by have := (List.getElem?_eq_some_iff.1 hj).1; have := I.len; omega
  have hrc := hr.step (List.mem_of_getElem? hj) hn
  refine ⟨by rw [List.length_set]; exact I.len, fun i h => set_keeps (I.old i h), fun i b hb h => ?_, fun i hi => ?_, ?_, fun i i' a' b hi ha' hb hn' => ?_⟩
  · rcases set_true h with h | rfl
    · exact I.sound i b hb h
    · rw [hj] at hb; cases hb; exact .inr hrc
  · rcases List.mem_append.1 hi with hi | hi
    · exact I.todo i hi
    · rw [List.mem_singleton] at hi; subst hi
      exact ⟨c, hj, hrc⟩
  · obtain ⟨i, h1, h2⟩ := I.start
    exact ⟨i, h1, set_keeps h2⟩
  · rcases set_true hi with hi | rfl
    · rcases I.close i i' a' b hi ha' hb hn' with k1 | k1 | ⟨rfl, k1⟩
      · exact .inl (set_keeps k1)
      · exact .inr (.inl (List.mem_append_left _ k1))
      · rw [ha] at ha'; cases ha'
        by_cases e1 : offI a b = m
        · have h1 := near_all hn'
          have h2 := near_all hn
          obtain rfl := off_one (e1.trans hc.symm) ⟨h1.1, h1.2.1⟩ ⟨h2.1, h2.2.1⟩
          obtain rfl := idx_unique hs hb hj
          exact .inl (set_there hjl)
        · exact .inr (.inr ⟨rfl, by omega⟩)
    · exact .inr (.inl (List.mem_append_right _ (List.mem_singleton.2 rfl)))
/-- in the end -/
theorem MarkI.done {e : Bool} {p : List Sp} {sn0 sn : List Bool} {s : Sp} {k : Nat} (I : MarkI e p sn0 s sn [] k 9) (hs : Sorted p) {j : Nat} {b : Sp} (hb : p[j]? = some b) : sn[j]? = some true ↔ sn0[j]? = some true ∨ Reach e p s b := by
  have hcl : ∀ (i j : Nat) a b, sn[i]? = some true → p[i]? = some a → p[j]? = some b → nearB e a b = true → sn[j]? = some true := fun i j a b hi ha hb hn => by
    rcases I.close i j a b hi ha hb hn with h | h | ⟨_, h⟩
    · exact h
    · cases h
    · have := (near_off hn).2; omega
  constructor
  · exact I.sound j b hb
  · rintro (h | h)
    · exact I.old j h
    · obtain ⟨i, hi, hsn⟩ := I.start
      obtain ⟨j', hj', hbj⟩ := h.ind (M := fun c => ∃ j' : Nat, sn[j']? = some true ∧ p[j']? = some c) (fun _ => ⟨i, hsn, hi⟩) fun x y _ ⟨i', h1, h2⟩ hy hn => by
        obtain ⟨j', hj'⟩ := List.mem_iff_getElem?.1 hy
        exact ⟨j', hcl i' j' x y h1 h2 hj' hn, hj'⟩
      obtain rfl := idx_unique hs hbj hb
      exact hj'
open Classical in
/-- whether a spot is reached from a mark -/
noncomputable def reachB (e : Bool) (p m : List Sp) (b : Sp) : Bool := decide (∃ a ∈ m, Reach e p a b)
open Classical in
theorem reachB_iff {e : Bool} {p m : List Sp} {b : Sp} : reachB e p m b = true ↔ ∃ a ∈ m, Reach e p a b := by
  unfold reachB; rw [decide_eq_true_eq]
theorem reachL_is (e : Bool) (p m : List Sp) : reachL e p m = p.filter (reachB e p m) := rfl
/-- what the truths beside a list say of its spots -/
def Says (p : List Sp) (sn : List Bool) (f : Sp → Bool) : Prop := sn.length = p.length ∧ ∀ (j : Nat) b, p[j]? = some b → sn[j]? = some (f b)
theorem says_of {p : List Sp} {sn : List Bool} {f : Sp → Bool} (hl : sn.length = p.length) (h : ∀ (j : Nat) b, p[j]? = some b → (sn[j]? = some true ↔ f b = true)) : Says p sn f := ⟨hl, fun j b hb => by
  have hj := (List.getElem?_eq_some_iff.1 hb).1
  have e := List.getElem?_eq_getElem (show j < sn.length by omega)
  have := h j b hb
  rw [e] at this ⊢
  rcases hx : sn[j] with _ | _
  · rw [hx] at this
    rcases hf : f b with _ | _
    · rfl
    · have := this.2 hf; cases this
  · rw [hx] at this
    rw [this.1 rfl]⟩
theorem Says.iff {p : List Sp} {sn : List Bool} {f : Sp → Bool} (h : Says p sn f) {j : Nat} {b : Sp} (hb : p[j]? = some b) : sn[j]? = some true ↔ f b = true := by
  rw [h.2 j b hb]
  exact ⟨fun h => by injection h, fun h => by rw [h]⟩
theorem Says.at {p : List Sp} {sn : List Bool} {f : Sp → Bool} (h : Says p sn f) {j : Nat} (hj : j < sn.length) : ∃ b, p[j]? = some b ∧ sn[j]? = some (f b) := by
  have hl := h.1
  exact ⟨_, List.getElem?_eq_getElem (by omega), h.2 j _ (List.getElem?_eq_getElem (by omega))⟩
theorem says_none {e : Bool} {p : List Sp} : Says p (List.replicate p.length false) (reachB e p []) := by
  refine says_of List.length_replicate fun j b hb => ?_
  rw [List.getElem?_replicate, reachB_iff]
  constructor
  · intro h
    split at h <;> cases h
  · rintro ⟨a, ha, _⟩; cases ha
theorem reachB_closed {e : Bool} {p m : List Sp} {sn : List Bool} (h : Says p sn (reachB e p m)) : Closed e p sn := fun i j a b hi ha hb hn => by
  rw [h.iff hb, reachB_iff]
  obtain ⟨c, hc, hr⟩ := reachB_iff.1 ((h.iff ha).1 hi)
  exact ⟨c, hc, hr.step (List.mem_of_getElem? hb) hn⟩
/-- the next mark is one of what is reached -/
theorem says_skip {e : Bool} {p m : List Sp} {sn : List Bool} {j k : Nat} {a : Sp} (h : Says p sn (reachB e p (m.take k))) (ha : m[k]? = some a) (hj : p[j]? = some a) (hs : sn[j]? = some true) : Says p sn (reachB e p (m.take (k + 1))) := by
  refine says_of h.1 fun i b hb => ?_
  rw [h.iff hb, reachB_iff, reachB_iff, List.take_add_one, ha]
  simp only [Option.toList_some, List.mem_append, List.mem_singleton]
  constructor
  · rintro ⟨c, hc, hr⟩; exact ⟨c, .inl hc, hr⟩
  · rintro ⟨c, hc | rfl, hr⟩
    · exact ⟨c, hc, hr⟩
    · obtain ⟨d, hd, hr'⟩ := reachB_iff.1 ((h.iff hj).1 hs)
      exact ⟨d, hd, hr'.trans hr⟩
/-- the next mark is new -/
theorem says_mark {e : Bool} {p m : List Sp} {sn sn' : List Bool} {i k : Nat} {a : Sp} (h : Says p sn (reachB e p (m.take k))) (hs : Sorted p) (ha : m[k]? = some a) (I : MarkI e p sn a sn' [] i 9) : Says p sn' (reachB e p (m.take (k + 1))) := by
  refine says_of I.len fun j b hb => ?_
  rw [I.done hs hb, h.iff hb, reachB_iff, reachB_iff, List.take_add_one, ha]
  simp only [Option.toList_some, List.mem_append, List.mem_singleton]
  constructor
  · rintro (⟨c, hc, hr⟩ | hr)
    · exact ⟨c, .inl hc, hr⟩
    · exact ⟨a, .inr rfl, hr⟩
  · rintro ⟨c, hc | rfl, hr⟩
    · exact .inl ⟨c, hc, hr⟩
    · exact .inr hr

/-! ### the program's way: spots on a stack -/
/-- what is visited so far, and what is still to be looked at -/
structure VisI (e : Bool) (p m : List Sp) (vis : List Bool) (st : List Sp) : Prop where
  len : vis.length = p.length
  sound : ∀ (j : Nat) b, p[j]? = some b → vis[j]? = some true → ∃ a ∈ m, Reach e p a b
  stack : ∀ b ∈ st, b ∈ p → ∃ a ∈ m, Reach e p a b
  mark : ∀ a ∈ m, ∀ j : Nat, p[j]? = some a → vis[j]? = some true ∨ a ∈ st
  close : ∀ (i j : Nat) a b, vis[i]? = some true → p[i]? = some a → p[j]? = some b → nearB e a b = true → vis[j]? = some true ∨ b ∈ st
theorem rep_no {n j : Nat} (h : (List.replicate n false)[j]? = some true) : False := by
  rw [List.getElem?_replicate] at h
  split at h <;> cases h
theorem VisI.begin (e : Bool) (p m : List Sp) : VisI e p m (List.replicate p.length false) m :=
  ⟨List.length_replicate, fun _ _ _ h => (rep_no h).elim, fun b hb hp => ⟨b, hb, .refl hp⟩, fun _ ha _ _ => .inr ha, fun _ _ _ _ h => (rep_no h).elim⟩
/-- the last one on the stack is none of the list, or it is visited -/
theorem VisI.drop {e : Bool} {p m : List Sp} {vis : List Bool} {st : List Sp} {c : Sp} (I : VisI e p m vis (st ++ [c])) (h : ∀ j : Nat, p[j]? = some c → vis[j]? = some true) : VisI e p m vis st :=
  ⟨I.len, I.sound, fun b hb => I.stack b (List.mem_append_left _ hb), fun a ha j hj => by
    rcases I.mark a ha j hj with k | k
    · exact .inl k
    · rcases List.mem_append.1 k with k | k
      · exact .inr k
      · rw [List.mem_singleton] at k; subst k; exact .inl (h j hj), fun i j a b hi ha hb hn => by
    rcases I.close i j a b hi ha hb hn with k | k
    · exact .inl k
    · rcases List.mem_append.1 k with k | k
      · exact .inr k
      · rw [List.mem_singleton] at k; subst k; exact .inl (h j hb)⟩
/-- it is new: all its neighbours are put on the stack -/
theorem VisI.new {e : Bool} {p m : List Sp} {vis : List Bool} {st l : List Sp} {c : Sp} {k : Nat} (I : VisI e p m vis (st ++ [c])) (hk : p[k]? = some c) (hl : ∀ b, b ∈ l ↔ nearB e c b = true) (hs : Sorted p) : VisI e p m (vis.set k true) (st ++ l) := by
  have hkl : k < vis.length := by have := (List.getElem?_eq_some_iff.1 hk).1; have := I.len; omega
  obtain ⟨a0, ha0, hr0⟩ := I.stack c (by simp) (List.mem_of_getElem? hk)
  refine ⟨by rw [List.length_set]; exact I.len, fun j b hb h => ?_, fun b hb hp => ?_, fun a ha j hj => ?_, fun i j a b hi ha hb hn => ?_⟩
  · rcases set_true h with h | rfl
    · exact I.sound j b hb h
    · rw [hk] at hb; cases hb; exact ⟨a0, ha0, hr0⟩
  · rcases List.mem_append.1 hb with hb | hb
    · exact I.stack b (List.mem_append_left _ hb) hp
    · exact ⟨a0, ha0, hr0.step hp ((hl b).1 hb)⟩
  · rcases I.mark a ha j hj with h | h
    · exact .inl (set_keeps h)
    · rcases List.mem_append.1 h with h | h
      · exact .inr (List.mem_append_left _ h)
      · rw [List.mem_singleton] at h; subst h
        obtain rfl := idx_unique hs hj hk
        exact .inl (set_there hkl)
  · rcases set_true hi with hi | rfl
    · rcases I.close i j a b hi ha hb hn with h | h
      · exact .inl (set_keeps h)
      · rcases List.mem_append.1 h with h | h
        · exact .inr (List.mem_append_left _ h)
        · rw [List.mem_singleton] at h; subst h
          obtain rfl := idx_unique hs hb hk
          exact .inl (set_there hkl)
    · rw [hk] at ha; cases ha
      exact .inr (List.mem_append_right _ ((hl b).2 hn))
theorem VisI.done {e : Bool} {p m : List Sp} {vis : List Bool} (I : VisI e p m vis []) : Says p vis (reachB e p m) := by
  refine says_of I.len fun j b hb => ?_
  rw [reachB_iff]
  refine ⟨I.sound j b hb, ?_⟩
  rintro ⟨a, ha, hr⟩
  have key : ∀ j' : Nat, p[j']? = some b → vis[j']? = some true := hr.ind (M := fun c => ∀ j' : Nat, p[j']? = some c → vis[j']? = some true) (fun _ j' hj' => by
      rcases I.mark a ha j' hj' with h | h
      · exact h
      · cases h) fun x y hx ih hy hn j' hj' => by
      obtain ⟨i, hi⟩ := List.mem_iff_getElem?.1 hx.right
      rcases I.close i j' x y (ih i hi) hi hj' hn with h | h
      · exact h
      · cases h
  exact key j hb

/-! ### pieces, one after the other -/
def lessL (l m : List Sp) : List Sp := l.filter fun x => !decide (x ∈ m)
theorem mem_lessL {l m : List Sp} {x : Sp} : x ∈ lessL l m ↔ x ∈ l ∧ ¬ x ∈ m := by unfold lessL; simp
theorem sorted_lessL {l : List Sp} (h : Sorted l) (m : List Sp) : Sorted (lessL l m) := sorted_filter h _
open Classical in
noncomputable def firstB (e : Bool) (p : List Sp) (a : Sp) : Bool := decide (∀ b, Reach e p a b → ¬ Lt b a)
open Classical in
theorem firstB_iff {e : Bool} {p : List Sp} {a : Sp} : firstB e p a = true ↔ ∀ b, Reach e p a b → ¬ Lt b a := by unfold firstB; rw [decide_eq_true_eq]
theorem firsts_is (e : Bool) (p : List Sp) : firsts e p = p.filter (firstB e p) := rfl
/-- a part of a list that nothing leads out of has its own pieces -/
theorem closed_pieces {e : Bool} {q : List Sp} (hq : Sorted q) {g : Sp → Bool} (hg : ∀ a b, Reach e q a b → g a = true → g b = true) : piecesL e (q.filter g) = ((firsts e q).filter g).map (pieceL e q) := by
  have hsub : Sub (q.filter g) q := fun x hx => (List.mem_filter.1 hx).1
  have hR : ∀ a b, Reach e (q.filter g) a b ↔ (g a = true ∧ Reach e q a b) := fun a b => by
    constructor
    · intro h; exact ⟨(List.mem_filter.1 h.left).2, h.sub hsub⟩
    · rintro ⟨h1, h2⟩
      exact h2.within fun c hc => List.mem_filter.2 ⟨hc.right, hg a c hc h1⟩
  have hF : firsts e (q.filter g) = (firsts e q).filter g := by
    refine sorted_ext (sorted_firsts (sorted_filter hq g)) (sorted_filter (sorted_firsts hq) g) fun x => ?_
    rw [mem_firsts, List.mem_filter, List.mem_filter, mem_firsts]
    constructor
    · rintro ⟨⟨h1, h2⟩, h3⟩
      exact ⟨⟨h1, fun b hb => h3 b ((hR x b).2 ⟨h2, hb⟩)⟩, h2⟩
    · rintro ⟨⟨h1, h2⟩, h3⟩
      exact ⟨⟨h1, h3⟩, fun b hb => h2 b ((hR x b).1 hb).2⟩
  unfold piecesL
  rw [hF]
  refine List.map_congr_left fun f hf => ?_
  have hgf := (List.mem_filter.1 hf).2
  refine sorted_ext (sorted_reachL (sorted_filter hq g)) (sorted_reachL hq) fun x => ?_
  show x ∈ pieceL e (q.filter g) f ↔ x ∈ pieceL e q f
  rw [mem_pieceL, mem_pieceL, hR]
  exact ⟨fun h => h.2, fun h => ⟨hgf, h⟩⟩
/-- the first spot of a list is the first one of its piece -/
theorem firsts_head {e : Bool} {a : Sp} {l : List Sp} (hs : Sorted (a :: l)) : firsts e (a :: l) = a :: l.filter (firstB e (a :: l)) := by
  rw [firsts_is, List.filter_cons_of_pos]
  rw [firstB_iff]
  intro b hb hlt
  rcases List.mem_cons.1 hb.right with rfl | h
  · exact lt_irrefl _ hlt
  · exact lt_asymm ((sorted_cons.1 hs).1 _ h) hlt
theorem pieces_step {e : Bool} {a : Sp} {l : List Sp} (hs : Sorted (a :: l)) : piecesL e (a :: l) = reachL e (a :: l) [a] :: piecesL e (lessL (a :: l) (reachL e (a :: l) [a])) := by
  have hcl : ∀ x y, Reach e (a :: l) x y → (!decide (x ∈ reachL e (a :: l) [a])) = true → (!decide (y ∈ reachL e (a :: l) [a])) = true := fun x y h hx => by
    simp only [Bool.not_eq_true', decide_eq_false_iff_not] at hx ⊢
    intro hy
    exact hx (mem_pieceL.2 ((mem_pieceL.1 hy).trans h.symm))
  have := closed_pieces hs hcl
  unfold lessL
  rw [this]
  unfold piecesL
  rw [firsts_head hs, List.map_cons]
  have ha : a ∈ reachL e (a :: l) [a] := mem_pieceL.2 (.refl (List.mem_cons_self ..))
  have hout : (!decide (a ∈ reachL e (a :: l) [a])) = false := by simp [ha]
  rw [List.filter_cons_of_neg (by rw [hout]; exact Bool.false_ne_true)]
  congr 2
  symm
  rw [List.filter_eq_self]
  intro x hx
  have hxl := (List.mem_filter.1 hx).1
  have hxf : x ∈ firsts e (a :: l) := by rw [firsts_head hs]; exact List.mem_cons_of_mem _ hx
  have haf : a ∈ firsts e (a :: l) := by rw [firsts_head hs]; exact List.mem_cons_self ..
  simp only [Bool.not_eq_true', decide_eq_false_iff_not]
  intro h
  have := firsts_one haf hxf (mem_pieceL.1 h)
  subst this
  exact lt_irrefl _ ((sorted_cons.1 hs).1 _ hxl)
theorem length_lessL_piece {e : Bool} {a : Sp} {l : List Sp} : (lessL (a :: l) (reachL e (a :: l) [a])).length < (a :: l).length := by
  have ha : a ∈ reachL e (a :: l) [a] := mem_pieceL.2 (.refl (List.mem_cons_self ..))
  unfold lessL
  have hout : (!decide (a ∈ reachL e (a :: l) [a])) = false := by simp [ha]
  rw [List.filter_cons_of_neg (by rw [hout]; exact Bool.false_ne_true), List.length_cons]
  have := List.length_filter_le (fun x => !decide (x ∈ reachL e (a :: l) [a])) l
  omega
/-- a spot is a first one just if it is not reached from those ahead of it -/
theorem first_reached {e : Bool} {p : List Sp} (hs : Sorted p) {k : Nat} {a : Sp} (ha : p[k]? = some a) : firstB e p a = !reachB e p (p.take k) a := by
  rw [Bool.eq_iff_iff, firstB_iff, Bool.not_eq_true', ← Bool.not_eq_true, reachB_iff]
  constructor
  · rintro h ⟨b, hb, hr⟩
    obtain ⟨i, hi⟩ := List.mem_iff_getElem?.1 hb
    rw [List.getElem?_take] at hi
    split at hi
    · exact h b hr.symm (steps_of_sorted hs (by assumption) hi ha)
    · cases hi
  · intro h b hr hlt
    refine h ⟨b, ?_, hr.symm⟩
    obtain ⟨i, hi⟩ := List.mem_iff_getElem?.1 hr.right
    have hik : i < k := by
      rcases Nat.lt_trichotomy i k with h' | h' | h'
      · exact h'
      · subst h'; rw [ha] at hi; cases hi; exact absurd hlt (lt_irrefl _)
      · exact absurd hlt (lt_asymm (steps_of_sorted hs h' ha hi))
    exact List.mem_of_getElem? (i := i) (by rw [List.getElem?_take, if_pos hik]; exact hi)
/-- the pieces whose first spots are among the first k -/
noncomputable def piecesUpto (e : Bool) (p : List Sp) (k : Nat) : List (List Sp) := ((p.take k).filter (firstB e p)).map (pieceL e p)
theorem piecesUpto_zero (e : Bool) (p : List Sp) : piecesUpto e p 0 = [] := rfl
theorem piecesUpto_all (e : Bool) (p : List Sp) : piecesUpto e p p.length = piecesL e p := by
  unfold piecesUpto; rw [List.take_length]; rfl
theorem piecesUpto_yes {e : Bool} {p : List Sp} {k : Nat} {a : Sp} (ha : p[k]? = some a) (h : firstB e p a = true) : piecesUpto e p k ++ [pieceL e p a] = piecesUpto e p (k + 1) := by
  unfold piecesUpto
  rw [← filt_yes ha h, List.map_append]; rfl
theorem piecesUpto_no {e : Bool} {p : List Sp} {k : Nat} {a : Sp} (ha : p[k]? = some a) (h : firstB e p a = false) : piecesUpto e p k = piecesUpto e p (k + 1) := by
  unfold piecesUpto
  rw [← filt_no ha h]
theorem length_piecesUpto (e : Bool) (p : List Sp) (k : Nat) : (piecesUpto e p k).length ≤ p.length := by
  unfold piecesUpto; rw [List.length_map]; exact filt_len _ _ _
theorem piece_sorted {e : Bool} {p q : List Sp} (hs : Sorted p) (h : q ∈ piecesL e p) : Sorted q := by
  obtain ⟨f, _, rfl⟩ := mem_piecesL.1 h
  exact sorted_reachL hs
theorem piece_upto_sorted {e : Bool} {p q : List Sp} {k : Nat} (hs : Sorted p) (h : q ∈ piecesUpto e p k) : Sorted q ∧ q.length ≤ p.length := by
  unfold piecesUpto at h
  obtain ⟨f, _, rfl⟩ := List.mem_map.1 h
  exact ⟨sorted_reachL hs, length_reachL_le _ _ _⟩
/-- whether one of the pieces so far has a spot -/
theorem piecesUpto_has {e : Bool} {p : List Sp} (hs : Sorted p) {k : Nat} {a : Sp} (ha : p[k]? = some a) : ((piecesUpto e p k).any fun q => decide (a ∈ q)) = !firstB e p a := by
  rw [first_reached hs ha, Bool.not_not, Bool.eq_iff_iff, List.any_eq_true, reachB_iff]
  constructor
  · rintro ⟨q, hq, hd⟩
    unfold piecesUpto at hq
    obtain ⟨f, hf, rfl⟩ := List.mem_map.1 hq
    exact ⟨f, (List.mem_filter.1 hf).1, mem_pieceL.1 (of_decide_eq_true hd)⟩
  · rintro ⟨b, hb, hr⟩
    obtain ⟨f, hf, hrf⟩ := firsts_all (e := e) hs hr.left
    have hff := mem_firsts.1 hf
    have hft : f ∈ p.take k := by
      obtain ⟨i, hi⟩ := List.mem_iff_getElem?.1 hb
      obtain ⟨i', hi'⟩ := List.mem_iff_getElem?.1 hff.1
      rw [List.getElem?_take] at hi
      split at hi
      · rename_i hik
        have hle : i' ≤ i := by
          rcases Nat.lt_or_ge i i' with h' | h'
          · exact absurd (steps_of_sorted hs h' hi hi') (hff.2 b hrf)
          · exact h'
        exact List.mem_of_getElem? (i := i') (by rw [List.getElem?_take, if_pos (by omega)]; exact hi')
      · cases hi
    refine ⟨pieceL e p f, List.mem_map.2 ⟨f, List.mem_filter.2 ⟨hft, firstB_iff.2 hff.2⟩, rfl⟩, decide_eq_true (mem_pieceL.2 (hrf.trans hr))⟩

/-! ### holes, by what is not reached from the border -/
/-- a spot on the border of a box -/
def edgeB (lo hi a : Sp) : Bool := decide (a.1 = lo.1 ∨ a.1 = hi.1 ∨ a.2 = lo.2 ∨ a.2 = hi.2)
theorem pieces_filter {e : Bool} {q : List Sp} (hq : Sorted q) (B : Sp → Bool) : piecesL e (lessL q (reachL e q (q.filter B))) = (piecesL e q).filter fun r => r.all fun a => !B a := by
  have hcl : ∀ x y, Reach e q x y → (!decide (x ∈ reachL e q (q.filter B))) = true → (!decide (y ∈ reachL e q (q.filter B))) = true := fun x y h hx => by
    simp only [Bool.not_eq_true', decide_eq_false_iff_not] at hx ⊢
    intro hy
    obtain ⟨a, ha, hr⟩ := mem_reachL.1 hy
    exact hx (mem_reachL.2 ⟨a, ha, hr.trans h.symm⟩)
  unfold lessL
  rw [closed_pieces hq hcl]
  unfold piecesL
  rw [List.filter_map]
  congr 1
  refine List.filter_congr fun f hf => ?_
  have hfq := (mem_firsts.1 hf).1
  simp only [Function.comp]
  rw [Bool.eq_iff_iff, Bool.not_eq_true', decide_eq_false_iff_not, List.all_eq_true]
  constructor
  · intro h x hx
    rw [Bool.not_eq_true', ← Bool.not_eq_true]
    intro hb
    have hr := mem_pieceL.1 hx
    exact h (mem_reachL.2 ⟨x, List.mem_filter.2 ⟨hr.right, hb⟩, hr.symm⟩)
  · intro h hm
    obtain ⟨a, ha, hr⟩ := mem_reachL.1 hm
    have hb := (List.mem_filter.1 ha).2
    have := h a (mem_pieceL.2 hr.symm)
    rw [hb] at this; cases this
theorem holes_less (p : List Sp) (h0 : p ≠ []) : piecesL false (lessL (restL p) (reachL false (restL p) ((restL p).filter (edgeB (boxL p).1 (boxL p).2)))) = holesL p := by
  rw [pieces_filter (sorted_restL p)]
  unfold holesL
  refine List.filter_congr fun q hq => ?_
  have hin : ∀ a ∈ q, a ∈ restL p := fun a ha => by
    obtain ⟨f, _, rfl⟩ := mem_piecesL.1 hq
    exact (mem_pieceL.1 ha).right
  unfold innerB
  rw [Bool.eq_iff_iff, List.all_eq_true, List.all_eq_true]
  refine forall_congr' fun a => forall_congr' fun ha => ?_
  have := ((mem_restL h0).1 (hin a ha)).1
  unfold edgeB
  rw [Bool.not_eq_true', decide_eq_false_iff_not, decide_eq_true_eq]
  omega

theorem within_parts {m p : List Sp} (h : withinB m p = true) : picB m = true ∧ picB p = true ∧ Sub m p := by
  unfold withinB bothB at h
  rw [Bool.and_eq_true, Bool.and_eq_true, decide_eq_true_eq] at h
  refine ⟨h.1.1, h.1.2, fun x hx => ?_⟩
  have := List.length_filter_eq_length_iff.1 h.2 x hx
  simpa using this
theorem nearS_pic {p : List Sp} (h : picB p = true) : ∀ a ∈ p, NearS a := fun a ha => by
  have := (picB_pic h).2.1 a ha
  unfold InR at this
  unfold NearS; omega

/-! ### the answers -/
noncomputable def reachR (e : Bool) (p m : List Sp) : List Sp := if withinB m p then reachL e p m else []
noncomputable def piecesR (e : Bool) (p : List Sp) : List (List Sp) := if picB p then piecesL e p else []
noncomputable def countR (e : Bool) (p : List Sp) : Int := if picB p then (piecesL e p).length else -1
noncomputable def holesR (p : List Sp) : List (List Sp) := if picB p then holesL p else []
noncomputable def fillOk (p : List Sp) : Bool := picB p && decide ((fillL p).length ≤ 60)
noncomputable def fillR (p : List Sp) : List Sp := if fillOk p then fillL p else []
end
/-! ### Forest -/
section
/-- r is at the top of i -/
inductive Top (us : List Nat) : Nat → Nat → Prop
  | root {i : Nat} (h : us[i]? = some i) : Top us i i
  | step {i j r : Nat} (h : us[i]? = some j) (k : Top us j r) : Top us i r
theorem Top.is_root {us : List Nat} {i r : Nat} (h : Top us i r) : us[r]? = some r := by
  induction h with
  | root h => exact h
  | step _ _ ih => exact ih
theorem Top.of_root {us : List Nat} {i r : Nat} (h : Top us i r) (h0 : us[i]? = some i) : r = i := by
  induction h with
  | root _ => rfl
  | step hj _ ih =>
    rw [h0] at hj
    cases hj
    exact ih h0
theorem Top.one {us : List Nat} {i r r' : Nat} (h : Top us i r) (h' : Top us i r') : r = r' := by
  induction h with
  | root h0 => exact (h'.of_root h0).symm
  | step hj k ih =>
    cases h' with
    | root h0 =>
      rw [h0] at hj
      cases hj
      exact k.of_root h0
    | step hj' k' =>
      rw [hj] at hj'
      cases hj'
      exact ih k'
/-- each place leads on within the first n, and comes to an end -/
def Ends (us : List Nat) (n : Nat) : Prop := ∃ d : Nat → Nat, ∀ i, i < n → ∃ j, us[i]? = some j ∧ j < n ∧ (j ≠ i → d j < d i)
theorem Ends.top {us : List Nat} {n : Nat} (h : Ends us n) : ∀ i, i < n → ∃ r, r < n ∧ Top us i r := by
  obtain ⟨d, hd⟩ := h
  have key : ∀ (m : Nat) (i : Nat), d i ≤ m → i < n → ∃ r, r < n ∧ Top us i r := by
    intro m
    induction m with
    | zero =>
      intro i hm hi
      obtain ⟨j, hj, hjn, hlt⟩ := hd i hi
      by_cases e : j = i
      · subst e; exact ⟨j, hjn, .root hj⟩
      · have := hlt e; omega
    | succ m ih =>
      intro i hm hi
      obtain ⟨j, hj, hjn, hlt⟩ := hd i hi
      by_cases e : j = i
      · subst e; exact ⟨j, hjn, .root hj⟩
      · have := hlt e
        obtain ⟨r, hr, ht⟩ := ih j (by omega) hjn
        exact ⟨r, hr, .step hj ht⟩
  exact fun i hi => key (d i) i (Nat.le_refl _) hi
theorem Top.join {us : List Nat} {s f : Nat} (hs : us[s]? = some s) (hf : us[f]? = some f) (hne : f ≠ s) {i r : Nat} (h : Top us i r) : Top (us.set s f) i (if r = s then f else r) := by
  have hsl := (List.getElem?_eq_some_iff.1 hs).1
  have h1 : (us.set s f)[s]? = some f := by rw [List.getElem?_set_self hsl]
  have h2 : (us.set s f)[f]? = some f := by rw [List.getElem?_set_ne (fun e => hne e.symm)]; exact hf
  have h3 : ∀ j, j ≠ s → (us.set s f)[j]? = us[j]? := fun j hj => List.getElem?_set_ne (fun e => hj e.symm)
  induction h with
  | root h =>
    rename_i i
    by_cases e : i = s
    · subst e; rw [if_pos rfl]; exact .step h1 (.root h2)
    · rw [if_neg e]; exact .root ((h3 i e).trans h)
  | step h k ih =>
    rename_i i j r
    by_cases e : i = s
    · subst e
      rw [hs] at h
      cases h
      exact ih
    · exact .step ((h3 i e).trans h) ih
open Classical in
theorem Ends.join {us : List Nat} {n s f : Nat} (h : Ends us n) (hs : us[s]? = some s) (hf : us[f]? = some f) (hne : f ≠ s) (hfn : f < n) : Ends (us.set s f) n := by
  obtain ⟨d, hd⟩ := h
  refine ⟨fun i => if Top us i s then d i + d f + 1 else d i, fun i hi => ?_⟩
  have hsl := (List.getElem?_eq_some_iff.1 hs).1
  by_cases e : i = s
  · subst e
    refine ⟨f, by rw [List.getElem?_set_self hsl], hfn, fun _ => ?_⟩
    have h1 : Top us i i := .root hs
    have h2 : ¬ Top us f i := fun k => hne (k.of_root hf).symm
    simp only [if_pos h1, if_neg h2]
    omega
  · obtain ⟨j, hj, hjn, hlt⟩ := hd i hi
    refine ⟨j, by rw [List.getElem?_set_ne (fun k => e k.symm)]; exact hj, hjn, fun hji => ?_⟩
    have hl := hlt hji
    by_cases ht : Top us j s
    · have h1 : Top us i s := .step hj ht
      simp only [if_pos ht, if_pos h1]
      omega
    · have h1 : ¬ Top us i s := fun k => by
        cases k with
        | root h0 => exact e rfl
        | step h' k' => rw [hj] at h'; cases h'; exact ht k'
      simp only [if_neg ht, if_neg h1]
      omega
/-- two places with one top -/
def Same (us : List Nat) (i j : Nat) : Prop := ∃ r, Top us i r ∧ Top us j r
theorem Same.join {us : List Nat} {s f i j : Nat} (hs : us[s]? = some s) (hf : us[f]? = some f) (hne : f ≠ s) (h : Same us i j) : Same (us.set s f) i j := by
  obtain ⟨r, h1, h2⟩ := h
  exact ⟨_, h1.join hs hf hne, h2.join hs hf hne⟩
theorem same_joined {us : List Nat} {s f i j : Nat} (hs : us[s]? = some s) (hf : us[f]? = some f) (hne : f ≠ s) (hi : Top us i f) (hj : Top us j s) : Same (us.set s f) i j := by
  have h1 := hi.join hs hf hne
  have h2 := hj.join hs hf hne
  rw [if_neg hne] at h1
  rw [if_pos rfl] at h2
  exact ⟨f, h1, h2⟩
def rootsL (us : List Nat) (n : Nat) : List Nat := (List.range n).filter fun i => decide (us[i]? = some i)
theorem filter_less {l : List Nat} {P Q : Nat → Bool} {s : Nat} (hn : l.Nodup) (hs : s ∈ l) (h1 : P s = true) (h2 : Q s = false) (h3 : ∀ i, i ≠ s → Q i = P i) : (l.filter Q).length + 1 = (l.filter P).length := by
  induction l with
  | nil => cases hs
  | cons a l ih =>
    obtain ⟨ha, hn'⟩ := List.nodup_cons.1 hn
    by_cases e : a = s
    · subst e
      have e1 : (a :: l).filter P = a :: l.filter P := List.filter_cons_of_pos h1
      have e2 : (a :: l).filter Q = l.filter Q := List.filter_cons_of_neg (by rw [h2]; exact Bool.false_ne_true)
      have e3 : l.filter Q = l.filter P := List.filter_congr fun x hx => h3 x fun e => by rw [e] at hx; exact ha hx
      rw [e1, e2, e3, List.length_cons]
    · have hsl : s ∈ l := by
        rcases List.mem_cons.1 hs with k | k
        · exact absurd k.symm e
        · exact k
      have := ih hn' hsl
      have ea := h3 a e
      rcases hp : P a with _ | _
      · have e1 : (a :: l).filter P = l.filter P := List.filter_cons_of_neg (by rw [hp]; exact Bool.false_ne_true)
        have e2 : (a :: l).filter Q = l.filter Q := List.filter_cons_of_neg (by rw [ea, hp]; exact Bool.false_ne_true)
        rw [e1, e2]
        exact this
      · have e1 : (a :: l).filter P = a :: l.filter P := List.filter_cons_of_pos hp
        have e2 : (a :: l).filter Q = a :: l.filter Q := List.filter_cons_of_pos (by rw [ea, hp])
        rw [e1, e2, List.length_cons, List.length_cons]
        omega
theorem roots_join {us : List Nat} {n s f : Nat} (hs : us[s]? = some s) (hne : f ≠ s) (hsn : s < n) : (rootsL (us.set s f) n).length + 1 = (rootsL us n).length := by
  have hsl := (List.getElem?_eq_some_iff.1 hs).1
  refine filter_less List.nodup_range (List.mem_range.2 hsn) (decide_eq_true hs) (decide_eq_false ?_) (fun i hi => ?_)
  · rw [List.getElem?_set_self hsl]
    intro e
    injection e with e
    exact hne e
  · rw [List.getElem?_set_ne (fun e => hi e.symm)]

/-! ### spots that are joined -/
/-- places of one tree are of one piece, and there are c trees -/
structure Forest (e : Bool) (p : List Sp) (us : List Nat) (c : Nat) : Prop where
  ends : Ends us p.length
  conn : ∀ (i j : Nat) a b, us[i]? = some j → p[i]? = some a → p[j]? = some b → Reach e p a b
  cnt : (rootsL us p.length).length = c
theorem Forest.top_reach {e : Bool} {p : List Sp} {us : List Nat} {c : Nat} (F : Forest e p us c) {i r : Nat} (h : Top us i r) : ∀ {a b}, i < p.length → p[i]? = some a → p[r]? = some b → Reach e p a b := by
  induction h with
  | root h => intro a b hi ha hb; exact F.conn _ _ _ _ h ha hb
  | step h k ih =>
    rename_i i j r
    intro a b hi ha hb
    obtain ⟨d, hd⟩ := F.ends
    obtain ⟨j', hj', hjn, _⟩ := hd i hi
    rw [h] at hj'
    cases hj'
    have hc := List.getElem?_eq_getElem hjn
    exact (F.conn _ _ _ _ h ha hc).trans (ih hjn hc hb)
theorem Forest.join {e : Bool} {p : List Sp} {us : List Nat} {c : Nat} (F : Forest e p us c) {i j f s : Nat} {a b : Sp} (ha : p[i]? = some a) (hb : p[j]? = some b) (hn : nearB e a b = true) (hi : Top us i f) (hj : Top us j s) (hne : f ≠ s) (hfn : f < p.length) (hsn : s < p.length) : Forest e p (us.set s f) (c - 1) := by
  have hs := hj.is_root
  have hf := hi.is_root
  refine ⟨F.ends.join hs hf hne hfn, fun i' j' a' b' h ha' hb' => ?_, ?_⟩
  · by_cases es : i' = s
    · subst es
      have hsl := (List.getElem?_eq_some_iff.1 hs).1
      rw [List.getElem?_set_self hsl] at h
      cases h
      have h1 := F.top_reach hi (List.getElem?_eq_some_iff.1 ha).1 ha hb'
      have h2 := F.top_reach hj (List.getElem?_eq_some_iff.1 hb).1 hb ha'
      have h3 : Reach e p a b := Reach.step (.refl (List.mem_of_getElem? ha)) (List.mem_of_getElem? hb) hn
      exact (h2.symm.trans h3.symm).trans h1
    · rw [List.getElem?_set_ne (fun k => es k.symm)] at h
      exact F.conn _ _ _ _ h ha' hb'
  · have := roots_join (f := f) hs hne hsn
    have := F.cnt
    omega
theorem Forest.pos {e : Bool} {p : List Sp} {us : List Nat} {c : Nat} (F : Forest e p us c) {i r : Nat} (h : Top us i r) (hr : r < p.length) : 0 < c := by
  rw [← F.cnt]
  exact List.length_pos_of_mem (List.mem_filter.2 ⟨List.mem_range.2 hr, decide_eq_true h.is_root⟩)
/-- in the end there are as many trees as pieces -/
theorem Forest.count {e : Bool} {p : List Sp} {us : List Nat} {c : Nat} (F : Forest e p us c) (hs : Sorted p) (hE : ∀ (i j : Nat) a b, p[i]? = some a → p[j]? = some b → nearB e a b = true → Same us i j) : c = (piecesL e p).length := by
  rw [length_piecesL, ← F.cnt]
  have hreach : ∀ a b, Reach e p a b → ∀ i j : Nat, p[i]? = some a → p[j]? = some b → Same us i j := by
    intro a b h
    refine h.ind (M := fun b => ∀ i j : Nat, p[i]? = some a → p[j]? = some b → Same us i j) (fun _ i j hi hj => ?_) fun x y hx ih hy hn i j hi hj => ?_
    · obtain rfl := idx_unique hs hi hj
      obtain ⟨r, _, hr⟩ := F.ends.top i (List.getElem?_eq_some_iff.1 hi).1
      exact ⟨r, hr, hr⟩
    · obtain ⟨k, hk⟩ := List.mem_iff_getElem?.1 hx.right
      obtain ⟨r, h1, h2⟩ := ih i k hi hk
      obtain ⟨r', h3, h4⟩ := hE k j x y hk hj hn
      obtain rfl := h2.one h3
      exact ⟨r, h1, h4⟩
  refine Nat.le_antisymm (rel_length (R := fun (i : Nat) (f : Sp) => ∃ a, p[i]? = some a ∧ Reach e p a f) (List.Nodup.sublist List.filter_sublist List.nodup_range) (fun i hi => ?_) (fun i hi i' hi' f h h' => ?_)) (rel_length (R := fun (f : Sp) (i : Nat) => ∃ a, p[i]? = some a ∧ Reach e p a f) (nodup_sorted (sorted_firsts hs)) (fun f hf => ?_) (fun f hf f' hf' i h h' => ?_))
  · obtain ⟨h1, h2⟩ := List.mem_filter.1 hi
    have hil := List.mem_range.1 h1
    have ha := List.getElem?_eq_getElem hil
    obtain ⟨f, hf, hr⟩ := firsts_all (e := e) hs (List.mem_of_getElem? ha)
    exact ⟨f, hf, _, ha, hr.symm⟩
  · obtain ⟨a, ha, hr⟩ := h
    obtain ⟨a', ha', hr'⟩ := h'
    have r1 := of_decide_eq_true (List.mem_filter.1 hi).2
    have r2 := of_decide_eq_true (List.mem_filter.1 hi').2
    obtain ⟨r, h1, h2⟩ := hreach a a' (hr.trans hr'.symm) i i' ha ha'
    rw [← h1.of_root r1, ← h2.of_root r2]
  · have hff := mem_firsts.1 hf
    obtain ⟨i, hi⟩ := List.mem_iff_getElem?.1 hff.1
    have hil := (List.getElem?_eq_some_iff.1 hi).1
    obtain ⟨r, hrn, hr⟩ := F.ends.top i hil
    have hb := List.getElem?_eq_getElem hrn
    exact ⟨r, List.mem_filter.2 ⟨List.mem_range.2 hrn, decide_eq_true hr.is_root⟩, _, hb, (F.top_reach hr hil hi hb).symm⟩
  · obtain ⟨a, ha, hr⟩ := h
    obtain ⟨a', ha', hr'⟩ := h'
    rw [ha] at ha'
    cases ha'
    exact firsts_one hf hf' (hr.symm.trans hr')
/-- at the start each is alone -/
theorem Forest.begin (e : Bool) {p : List Sp} {us : List Nat} (h : ∀ i, i < p.length → us[i]? = some i) : Forest e p us p.length := by
  refine ⟨⟨fun _ => 0, fun i hi => ⟨i, h i hi, hi, fun k => absurd rfl k⟩⟩, fun i j a b hij ha hb => ?_, ?_⟩
  · rw [h i (List.getElem?_eq_some_iff.1 ha).1] at hij
    cases hij
    rw [ha] at hb; cases hb
    exact .refl (List.mem_of_getElem? ha)
  · unfold rootsL
    rw [List.filter_eq_self.2 (fun i hi => decide_eq_true (h i (List.mem_range.1 hi))), List.length_range]
/-- neighbours that were looked at have one top: those of the places ahead of i, and of i those of the first t ways -/
def Joined (e : Bool) (p : List Sp) (us : List Nat) (steps : List Sp) (i t : Nat) : Prop := ∀ (i' j : Nat) a b, p[i']? = some a → p[j]? = some b → nearB e a b = true → (i' < i ∨ i' = i ∧ b ∈ (steps.take t).map (addS a)) → Same us i' j
theorem Joined.begin {e : Bool} {p : List Sp} {us : List Nat} {steps : List Sp} : Joined e p us steps 0 0 := fun i' j a b _ _ _ h => by
  rcases h with h | ⟨_, h⟩
  · omega
  · rw [List.take_zero] at h; cases h
theorem Joined.next {e : Bool} {p : List Sp} {us : List Nat} {steps : List Sp} {i : Nat} (h : Joined e p us steps i steps.length) (hst : ∀ a b, nearB e a b = true → b ∈ steps.map (addS a)) : Joined e p us steps (i + 1) 0 := fun i' j a b ha hb hn k => by
  refine h i' j a b ha hb hn ?_
  rcases k with k | ⟨_, k⟩
  · by_cases e1 : i' = i
    · exact .inr ⟨e1, by rw [List.take_length]; exact hst a b hn⟩
    · exact .inl (by omega)
  · rw [List.take_zero] at k; cases k
theorem Joined.step {e : Bool} {p : List Sp} {us us' : List Nat} {steps : List Sp} {i t : Nat} {a d : Sp} (h : Joined e p us steps i t) (ha : p[i]? = some a) (hd : steps[t]? = some d) (hm : ∀ i' j, Same us i' j → Same us' i' j) (hj : ∀ j : Nat, p[j]? = some (addS a d) → Same us' i j) : Joined e p us' steps i (t + 1) := fun i' j a' b ha' hb hn k => by
  rcases k with k | ⟨rfl, k⟩
  · exact hm _ _ (h i' j a' b ha' hb hn (.inl k))
  · rw [ha] at ha'; cases ha'
    rw [List.take_add_one, hd, List.map_append] at k
    rcases List.mem_append.1 k with k | k
    · exact hm _ _ (h i' j a b ha hb hn (.inr ⟨rfl, k⟩))
    · simp only [Option.toList_some, List.map_cons, List.map_nil, List.mem_singleton] at k
      subst k
      exact hj j hb
theorem Joined.all {e : Bool} {p : List Sp} {us : List Nat} {steps : List Sp} (h : Joined e p us steps p.length 0) : ∀ (i j : Nat) a b, p[i]? = some a → p[j]? = some b → nearB e a b = true → Same us i j := fun i j a b ha hb hn => h i j a b ha hb hn (.inl (List.getElem?_eq_some_iff.1 ha).1)
end
/-! ### HoleP -/
noncomputable def holesUpto (R : List Sp) (lo hi : Sp) (k : Nat) : List (List Sp) := (piecesUpto false R k).filter (innerB lo hi)
theorem holesUpto_zero (R : List Sp) (lo hi : Sp) : holesUpto R lo hi 0 = [] := rfl
theorem holesUpto_skip {R : List Sp} {lo hi : Sp} {k : Nat} {a : Sp} (ha : R[k]? = some a) (h : firstB false R a = false) : holesUpto R lo hi k = holesUpto R lo hi (k + 1) := by
  unfold holesUpto; rw [← piecesUpto_no ha h]
theorem holesUpto_in {R : List Sp} {lo hi : Sp} {k : Nat} {a : Sp} (ha : R[k]? = some a) (h : firstB false R a = true) (hi' : innerB lo hi (reachL false R [a]) = true) : holesUpto R lo hi k ++ [reachL false R [a]] = holesUpto R lo hi (k + 1) := by
  unfold holesUpto
  rw [← piecesUpto_yes ha h, List.filter_append]
  show _ = _ ++ [reachL false R [a]].filter (innerB lo hi)
  rw [List.filter_cons_of_pos hi', List.filter_nil]
theorem holesUpto_out {R : List Sp} {lo hi : Sp} {k : Nat} {a : Sp} (ha : R[k]? = some a) (h : firstB false R a = true) (hi' : innerB lo hi (reachL false R [a]) = false) : holesUpto R lo hi k = holesUpto R lo hi (k + 1) := by
  unfold holesUpto
  rw [← piecesUpto_yes ha h, List.filter_append]
  show _ = _ ++ [reachL false R [a]].filter (innerB lo hi)
  rw [List.filter_cons_of_neg (by rw [hi']; exact Bool.false_ne_true), List.filter_nil, List.append_nil]
theorem holesUpto_all {p : List Sp} {lo hi : Sp} (h : boxL p = (lo, hi)) : holesUpto (restL p) lo hi (restL p).length = holesL p := by
  unfold holesUpto holesL
  rw [piecesUpto_all, h]
theorem length_holesUpto (R : List Sp) (lo hi : Sp) (k : Nat) : (holesUpto R lo hi k).length ≤ R.length := by
  unfold holesUpto
  exact Nat.le_trans (List.length_filter_le _ _) (length_piecesUpto _ _ _)
theorem reachB_succ {e : Bool} {p m : List Sp} {k : Nat} {a : Sp} (ha : m[k]? = some a) (b : Sp) : reachB e p (m.take (k + 1)) b = (reachB e p (m.take k) b || reachB e p [a] b) := by
  rw [Bool.eq_iff_iff, Bool.or_eq_true, reachB_iff, reachB_iff, reachB_iff, List.take_add_one, ha]
  simp only [Option.toList_some, List.mem_append, List.mem_singleton]
  constructor
  · rintro ⟨c, hc | hc, hr⟩
    · exact .inl ⟨c, hc, hr⟩
    · exact .inr ⟨c, hc, hr⟩
  · rintro (⟨c, hc, hr⟩ | ⟨c, hc, hr⟩)
    · exact ⟨c, .inl hc, hr⟩
    · exact ⟨c, .inr hc, hr⟩
/-- what is marked from one spot alone -/
theorem says_one {e : Bool} {p : List Sp} {sn : List Bool} {k : Nat} {s : Sp} (I : MarkI e p (List.replicate p.length false) s sn [] k 9) (hs : Sorted p) : Says p sn (reachB e p [s]) := by
  refine says_of I.len fun j b hb => ?_
  rw [I.done hs hb, reachB_iff]
  constructor
  · rintro (h | h)
    · exact (rep_no h).elim
    · exact ⟨s, List.mem_singleton.2 rfl, h⟩
  · rintro ⟨c, hc, hr⟩
    rw [List.mem_singleton] at hc
    subst hc; exact .inr hr
theorem closed_none {e : Bool} {p : List Sp} {n : Nat} : Closed e p (List.replicate n false) := fun _ _ _ _ h => (rep_no h).elim
/-- those that were done, and those of the first j that are seen -/
structure DoneI (dn sn cur : List Bool) (j : Nat) : Prop where
  len : cur.length = dn.length
  lo : ∀ (i : Nat) a b, i < j → dn[i]? = some a → sn[i]? = some b → cur[i]? = some (a || b)
  hi : ∀ i, j ≤ i → cur[i]? = dn[i]?
theorem DoneI.begin (dn sn : List Bool) : DoneI dn sn dn 0 := ⟨rfl, fun i _ _ h => by omega, fun _ _ => rfl⟩
theorem DoneI.no {dn sn cur : List Bool} {j : Nat} (h : DoneI dn sn cur j) (hs : sn[j]? = some false) : DoneI dn sn cur (j + 1) :=
  ⟨h.len, fun i a b hi ha hb => by
    by_cases e : i = j
    · subst e
      rw [hs] at hb; cases hb
      rw [h.hi i (Nat.le_refl _), ha, Bool.or_false]
    · exact h.lo i a b (by omega) ha hb, fun i hi => h.hi i (by omega)⟩
theorem DoneI.yes {dn sn cur : List Bool} {j : Nat} (h : DoneI dn sn cur j) (hs : sn[j]? = some true) (hj : j < dn.length) : DoneI dn sn (cur.set j true) (j + 1) :=
  ⟨by rw [List.length_set]; exact h.len, fun i a b hi ha hb => by
    by_cases e : i = j
    · subst e
      rw [hs] at hb; cases hb
      rw [List.getElem?_set_self (by rw [h.len]; exact hj), Bool.or_true]
    · rw [List.getElem?_set_ne (fun k => e k.symm)]
      exact h.lo i a b (by omega) ha hb, fun i hi => by
    rw [List.getElem?_set_ne (by omega)]
    exact h.hi i (by omega)⟩
theorem DoneI.says {p : List Sp} {dn sn cur : List Bool} {f g : Sp → Bool} (h : DoneI dn sn cur p.length) (hd : Says p dn f) (hs : Says p sn g) : Says p cur fun b => f b || g b :=
  ⟨h.len.trans hd.1, fun j b hb => h.lo j _ _ (List.getElem?_eq_some_iff.1 hb).1 (hd.2 j b hb) (hs.2 j b hb)⟩
theorem says_done {p : List Sp} {dn sn cur : List Bool} {k : Nat} {a : Sp} (ha : p[k]? = some a) (h : DoneI dn sn cur p.length) (hd : Says p dn (reachB false p (p.take k))) (hs : Says p sn (reachB false p [a])) : Says p cur (reachB false p (p.take (k + 1))) := by
  have e : reachB false p (p.take (k + 1)) = fun b => reachB false p (p.take k) b || reachB false p [a] b := funext fun b => reachB_succ ha b
  rw [e]; exact h.says hd hs
/-- what is inner so far -/
noncomputable def innUpto (R : List Sp) (g : Sp → Bool) (lo hi : Sp) (j : Nat) : Bool := innerB lo hi ((R.take j).filter g)
theorem innUpto_zero (R : List Sp) (g : Sp → Bool) (lo hi : Sp) : innUpto R g lo hi 0 = true := rfl
theorem innUpto_no {R : List Sp} {g : Sp → Bool} {lo hi : Sp} {j : Nat} {b : Sp} (hb : R[j]? = some b) (h : g b = false) : innUpto R g lo hi j = innUpto R g lo hi (j + 1) := by
  unfold innUpto; rw [← filt_no hb h]
theorem innUpto_yes {R : List Sp} {g : Sp → Bool} {lx ly gx gy x y : Int} {j : Nat} (hb : R[j]? = some (x, y)) (h : g (x, y) = true) : innUpto R g (lx, ly) (gx, gy) (j + 1) = (innUpto R g (lx, ly) (gx, gy) j && decide (lx < x ∧ x < gx ∧ ly < y ∧ y < gy)) := by
  unfold innUpto
  rw [← filt_yes hb h]
  unfold innerB
  rw [List.all_append]
  simp
theorem innUpto_out {R : List Sp} {g : Sp → Bool} {lx ly gx gy x y : Int} {j : Nat} (hb : R[j]? = some (x, y)) (h : g (x, y) = true) (k : innUpto R g (lx, ly) (gx, gy) j = false ∨ ¬ (lx < x ∧ x < gx ∧ ly < y ∧ y < gy)) : innUpto R g (lx, ly) (gx, gy) (j + 1) = false := by
  rw [innUpto_yes hb h]
  rcases k with k | k
  · rw [k, Bool.false_and]
  · rw [decide_eq_false k, Bool.and_false]
theorem innUpto_in {R : List Sp} {g : Sp → Bool} {lx ly gx gy x y : Int} {j : Nat} (hb : R[j]? = some (x, y)) (h : g (x, y) = true) (k : innUpto R g (lx, ly) (gx, gy) j = true) (k' : lx < x ∧ x < gx ∧ ly < y ∧ y < gy) : innUpto R g (lx, ly) (gx, gy) (j + 1) = true := by
  rw [innUpto_yes hb h, k, decide_eq_true k']; rfl
theorem innUpto_all (R : List Sp) (g : Sp → Bool) (lo hi : Sp) : innUpto R g lo hi R.length = innerB lo hi (R.filter g) := by
  unfold innUpto; rw [List.take_length]
/-! ### SumP -/
/-- how many spots the first k lists have -/
def sumUpTo (ls : List (List Sp)) (k : Nat) : Nat := ((ls.take k).map List.length).sum
theorem sumUpTo_succ {ls : List (List Sp)} {k : Nat} {q : List Sp} (h : ls[k]? = some q) : sumUpTo ls (k + 1) = sumUpTo ls k + q.length := by
  unfold sumUpTo
  rw [List.take_add_one, h, List.map_append, List.sum_append]
  simp
theorem sumUpTo_le (ls : List (List Sp)) (k : Nat) : sumUpTo ls k ≤ (ls.map List.length).sum := by
  unfold sumUpTo
  have : (ls.map List.length).sum = ((ls.take k).map List.length).sum + ((ls.drop k).map List.length).sum := by
    rw [← List.sum_append, ← List.map_append, List.take_append_drop]
  omega
theorem sumUpTo_all (ls : List (List Sp)) : sumUpTo ls ls.length = (ls.map List.length).sum := by unfold sumUpTo; rw [List.take_length]
theorem flat_upto {ls : List (List Sp)} {k : Nat} {q : List Sp} (h : ls[k]? = some q) : (ls.take k).flatten ++ q = (ls.take (k + 1)).flatten := by
  rw [List.take_add_one, h, List.flatten_append]
  simp
theorem flat_length_upto (ls : List (List Sp)) (k : Nat) : (ls.take k).flatten.length = sumUpTo ls k := by
  unfold sumUpTo; rw [List.length_flatten]
/-! ### Law7 -/
theorem within7 {a b : List Sp} (ha : picB a = true) (hb : picB b = true) (h : Sub a b) : withinB a b = true := by
  unfold withinB bothB
  rw [ha, hb]
  have e : common a b = a := List.filter_eq_self.2 fun x hx => decide_eq_true (h x hx)
  rw [e]
  exact decide_eq_true rfl
theorem pic_reach {e : Bool} {p m : List Sp} (hp : picB p = true) : picB (reachL e p m) = true := pic_filter hp _
theorem reachR_yes {e : Bool} {p m : List Sp} (h : withinB m p = true) : reachR e p m = reachL e p m := by unfold reachR; rw [h]; rfl
theorem reachR_no {e : Bool} {p m : List Sp} (h : withinB m p = false) : reachR e p m = [] := by unfold reachR; rw [h]; rfl
/-- what the law of ReachedOf asks -/
structure Reached7 (e : Bool) (p m : List Sp) : Prop where
  s : reachR e p m = reachL e p m
  f : reachR false p m = reachL false p m
  a : reachR true p m = reachL true p m
  again : reachR e p (reachL e p m) = reachL e p m
  w1 : withinB m (reachL e p m) = true
  w2 : withinB (reachL e p m) p = true
  w3 : withinB (reachL false p m) (reachL true p m) = true
theorem reached7 {e : Bool} {p m : List Sp} (h : withinB m p = true) : Reached7 e p m := by
  obtain ⟨hm, hp, hs⟩ := within_parts h
  have hps := (picB_pic hp).2.2
  have w2 : withinB (reachL e p m) p = true := within7 (pic_reach hp) hp (reachL_sub e p m)
  exact ⟨reachR_yes h, reachR_yes h, reachR_yes h, by rw [reachR_yes w2, reachL_again hps], within7 hm (pic_reach hp) (sub_reachL hs), w2, within7 (pic_reach hp) (pic_reach hp) (reachL_more p m)⟩
theorem count7_le {p : List Sp} (hp : picB p = true) : countR true p ≤ countR false p := by
  unfold countR
  rw [hp, if_pos rfl, if_pos rfl]
  have := count_eight (picB_pic hp).2.2
  omega
theorem count7_zero {e : Bool} {p : List Sp} (hp : picB p = true) : countR e p = 0 ↔ p.length = 0 := by
  unfold countR
  rw [hp, if_pos rfl]
  have := count_zero (e := e) (picB_pic hp).2.2
  constructor
  · intro h
    rw [this.1 (by omega)]; rfl
  · intro h
    have := this.2 (List.eq_nil_of_length_eq_zero h)
    omega
theorem count7_nonneg {e : Bool} {p : List Sp} (hp : picB p = true) : 0 ≤ countR e p := by
  unfold countR
  rw [hp, if_pos rfl]
  omega
theorem pic_turned7 {p : List Sp} (hp : picB p = true) : picB (turned p) = true := decide_eq_true (pic_turned (picB_pic hp))
theorem count7_turned {e : Bool} {p : List Sp} (hp : picB p = true) : countR e (turned p) = countR e p := by
  unfold countR
  rw [hp, pic_turned7 hp, if_pos rfl, if_pos rfl]
  have hs := (picB_pic hp).2.2
  rw [count_turned hs (sorted_turned hs)]
/-- what the law of PiecesOf asks of each piece -/
structure Piece7 (e : Bool) (p q : List Sp) : Prop where
  pic : picB q = true
  win : withinB q p = true
  reach : reachR e p q = q
  one : (piecesR e q).length = 1
theorem piece7 {e : Bool} {p q : List Sp} (hp : picB p = true) (hq : q ∈ piecesL e p) : Piece7 e p q := by
  obtain ⟨f, hf, rfl⟩ := mem_piecesL.1 hq
  have hs := (picB_pic hp).2.2
  have h1 : picB (pieceL e p f) = true := pic_reach hp
  have h2 : withinB (pieceL e p f) p = true := within7 h1 hp (reachL_sub e p [f])
  refine ⟨h1, h2, by rw [reachR_yes h2, piece_reach hs], ?_⟩
  unfold piecesR
  rw [h1, if_pos rfl, piece_pieces hs hf]
theorem commonL7_nil {a b : List Sp} (h : common a b = []) : commonL a b = [] := by
  unfold commonL
  split
  · exact h
  · rfl
theorem pieces7_apart {e : Bool} {p : List Sp} (hp : picB p = true) {k j : Nat} {q r : List Sp} (hk : (piecesL e p)[k]? = some q) (hj : (piecesL e p)[j]? = some r) (hne : j ≠ k) : commonL q r = [] := by
  have hs := (picB_pic hp).2.2
  unfold piecesL at hk hj
  rw [List.getElem?_map] at hk hj
  obtain ⟨f, hf, rfl⟩ : ∃ f, (firsts e p)[k]? = some f ∧ pieceL e p f = q := by
    cases h : (firsts e p)[k]? with
    | none => rw [h] at hk; cases hk
    | some f => rw [h] at hk; cases hk; exact ⟨f, rfl, rfl⟩
  obtain ⟨g, hg, rfl⟩ : ∃ f, (firsts e p)[j]? = some f ∧ pieceL e p f = r := by
    cases h : (firsts e p)[j]? with
    | none => rw [h] at hj; cases hj
    | some f => rw [h] at hj; cases hj; exact ⟨f, rfl, rfl⟩
  refine commonL7_nil (pieces_apart (List.mem_of_getElem? hf) (List.mem_of_getElem? hg) fun e1 => ?_)
  subst e1
  exact hne (idx_unique (sorted_firsts hs) hg hf)
/-- what the law of HolesOf asks of each hole of at most 60 spots -/
structure Hole7 (p h : List Sp) : Prop where
  pic : picB h = true
  one : (piecesR false h).length = 1
  apart : commonL h p = []
  beside : ∀ a ∈ h, ∀ b ∈ ring4 a, hasB h b = true ∨ hasB p b = true
theorem hole7 {p h : List Sp} (hp : picB p = true) (hh : h ∈ holesL p) (hl : h.length ≤ 60) : Hole7 p h := by
  obtain ⟨f, hF⟩ := hole_is hh
  have h1 := hole_pic hp hF hl
  refine ⟨h1, ?_, commonL7_nil (hole_apart hF), fun a ha b hb => ?_⟩
  · unfold piecesR
    rw [h1, if_pos rfl, hole_pieces hF]
  · rcases hole_beside hF ha hb with k | k
    · left; rw [hasB_yes h1]; exact decide_eq_true k
    · right; rw [hasB_yes hp]; exact decide_eq_true k
end Go.Proofs.Ytmpfhdcefilekaa
