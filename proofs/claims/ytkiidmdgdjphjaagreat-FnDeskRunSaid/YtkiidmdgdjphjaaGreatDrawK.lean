/- The draw of a desk. No conditions but those typed. -/
import Derived.Test.YtkiidmdgdjphjaaGreatDrawD
import Derived.Test.YtkiidmdgdjphjaaGreatDeskN
import Derived.Test.YtkiidmdgdjphjaaGreatDeskZ
import Derived.Test.YtkiidmdgdjphjaaGreatDraws7
namespace Go.Proofs.YtkiidmdgdjphjaaGreat
open Go.RowKit Go.Sort

/-- a desk that draws made: its pictures and the slice of those of before are the call's own -/
structure DDr (w X : World) (lo hi : Nat) (v : Value) (d : Dk) : Prop where
  own : DeskV X lo hi v d
  few : d.2.length ≤ 7
  sum : d.1.length ≤ 61 ∧ ∀ p ∈ d.2, p.length ≤ 61
  ge : w.heap.size ≤ lo ∧ lo ≤ hi
theorem newV {w : World} {lo hi : Nat} {n : Value} {d : Dk} (h : DeskO w lo hi (.agg #[n, .slice none 0 0]) d) (hd : d.2 = []) : DeskV w lo hi (.agg #[n, .slice none 0 0]) d := by
  obtain ⟨n', p', vs, e, h1, h2, h3⟩ := h
  cases e
  have hl : vs = [] := by
    have := h2.len
    rw [hd] at this
    exact List.eq_nil_of_length_eq_zero (by simpa using this)
  subst hl
  exact ⟨_, _, [], rfl, ⟨VOwns.nil _ _ _, fun g hg => by cases hg⟩, h2, h3⟩
theorem DDr.grown {w X Y : World} {lo hi g : Nat} {v : Value} {d : Dk} (D : DDr w X lo hi v d) (h : X.grownBy Y (some g)) (hg : g < lo) : DDr w Y lo hi v d :=
  ⟨D.own.keptBy h.size (fun q h1 _ h3 => h.block q h3 (fun e => by injection e with e; omega)), D.few, D.sum, D.ge⟩
theorem DDr.below {w X Y : World} {lo hi : Nat} {v : Value} {d : Dk} (D : DDr w X lo hi v d) (h : Below X.heap.size X Y) : DDr w Y lo hi v d := ⟨D.own.below h, D.few, D.sum, D.ge⟩
theorem desk_new (p : List Sp) : deskB (deskNewR p) = true ∧ (deskNewR p).2 = [] := by
  rcases e : picB p with _ | _
  · rw [new_no e]; exact ⟨by decide, rfl⟩
  · rw [new_yes e]; exact ⟨deskB_iff.2 ⟨e, by simp, fun q hq => by cases hq⟩, rfl⟩
theorem do_more (d : Dk) (a : Dd) : (doR d a).2.length ≤ d.2.length + 1 := by
  cases h : doV d a with
  | none => rw [(do_no h).2]; omega
  | some x =>
    rw [(do_yes h).2]
    unfold doV at h
    split at h
    · split at h
      · cases h
      · cases h; simp only [List.length_take]; omega
    · split at h
      · split at h
        · cases h
        · cases h; simp only [pastR_length]; omega
      · cases h
theorem desk_lens61 {d : Dk} (h : deskB d = true) : d.1.length ≤ 61 ∧ ∀ p ∈ d.2, p.length ≤ 61 := by
  have D := deskB_iff.1 h
  exact ⟨by have := (picB_pic D.now).1; omega, fun p hp => by have := (picB_pic (D.past p hp)).1; omega⟩
theorem grown_al2 {w wr : World} {g : Nat} (h : w.grownBy wr (some g)) (o : Obj) : w.grownBy (wr.alloc o) (some g) := grown_al h o
/-- the state of the loop: the reader, the box of the desk so far, the answer's box -/
structure KSt (w X : World) (g n c : Nat) (A : Option Addr) (q B lo hi : Nat) (s1 s2 : Value) (d : Dk) : Prop where
  rd : Rd X g A n c q
  gr : w.grownBy X (some g)
  row : X.heap[w.heap.size]? = some (.cells #[.slice none 0 0, .slice none 0 0] 26 (0, 0))
  box : X.heap[B]? = some (.cells #[s1, s2] 26 (0, 0))
  own : DeskV X lo hi (.agg #[s1, s2]) d
  ord : g < w.heap.size ∧ w.heap.size < B ∧ w.heap.size < lo ∧ lo ≤ hi ∧ (B < lo ∨ hi ≤ B)
section
variable {w X Y : World} {g n c q r B lo hi : Nat} {A : Option Addr} {s1 s2 : Value} {d : Dk}
theorem KSt.lt (J : KSt w X g n c A q B lo hi s1 s2 d) : B < X.heap.size := (Array.getElem?_eq_some_iff.1 J.box).1
theorem KSt.below (J : KSt w X g n c A q B lo hi s1 s2 d) (h : Below X.heap.size X Y) : KSt w Y g n c A q B lo hi s1 s2 d := by
  have l1 := J.lt
  have l2 := J.ord
  exact ⟨J.rd.below h, grown_below J.gr h, (h.block _ (by omega)).trans J.row, (h.block _ l1).trans J.box, J.own.below h, J.ord⟩
theorem KSt.pick (J : KSt w X g n c A q B lo hi s1 s2 d) (hr : Rd Y g A n c r) (h : X.grownBy Y (some g)) : KSt w Y g n c A r B lo hi s1 s2 d := by
  have l1 := J.lt
  have l2 := J.ord
  exact ⟨hr, grown_trans J.gr h, (h.block _ (by omega) (fun e => by injection e with e; omega)).trans J.row, (h.block _ l1 (fun e => by injection e with e; omega)).trans J.box, J.own.keptBy h.size (fun p h1 _ h3 => h.block p h3 (fun e => by injection e with e; omega)), J.ord⟩
theorem KSt.drew (J : KSt w X g n c A q B lo hi s1 s2 d) : KSt w X.drew g n c A q B lo hi s1 s2 d := J.below (Below.refl _ _).drew
theorem KSt.al (J : KSt w X g n c A q B lo hi s1 s2 d) (o : Obj) : KSt w (X.alloc o) g n c A q B lo hi s1 s2 d := J.below ((Below.refl _ _).alloc (Nat.le_refl _) o)
theorem KSt.cells (J : KSt w X g n c A q B lo hi s1 s2 d) : X.cell? ⟨B, 0, none⟩ = some s1 ∧ X.cell? ⟨B, 1, none⟩ = some s2 := cells_of_row J.box
/-- the picture of the desk stays, whatever is drawn -/
theorem KSt.now (J : KSt w X g n c A q B lo hi s1 s2 d) : ∀ w', X.grownBy w' (some g) → Reads w' w'.heap.size s1 d.1 := fun w' h => by
  have l2 := J.ord
  have o := J.own.keptBy (w' := w') h.size (fun p h1 _ h3 => h.block p h3 (fun e => by injection e with e; omega))
  obtain ⟨n, p, e, h1, _⟩ := o.o.rd
  cases e
  exact h1
/-- another desk in the box -/
theorem KSt.put (J : KSt w X g n c A q B lo hi s1 s2 d) {lo' hi' : Nat} {t1 t2 : Value} {d' : Dk} (o : DeskV X lo' hi' (.agg #[t1, t2]) d') (ho : w.heap.size < lo' ∧ lo' ≤ hi' ∧ (B < lo' ∨ hi' ≤ B)) : KSt w ((X.setCell ⟨B, 0, none⟩ t1).setCell ⟨B, 1, none⟩ t2) g n c A q B lo' hi' t1 t2 d' := by
  have l1 := J.lt
  have l2 := J.ord
  exact ⟨(J.rd.setAt (by omega)).setAt (by omega), grown_app (grown_app J.gr (grown_set _ _ _ _) (fun k e => by injection e with e; omega)) (grown_set _ _ _ _) (fun k e => by injection e with e; omega), (set2_other (by omega)).trans J.row, (heap_setCell_same _ B 1 _ _ t2 ((heap_setCell_same X B 0 _ _ t1 J.box).trans rfl)).trans rfl, o.keptBy (by simp [World.setCell]) (fun p h1 h2 _ => set2_other (by omega)), by omega⟩
/-- what is written into a block that none of them is leaves all -/
theorem KSt.aside (J : KSt w X g n c A q B lo hi s1 s2 d) {G : Nat} {a b : Value} (hG : w.heap.size < G ∧ G ≠ B) (hr : hi ≤ G) : KSt w ((X.setCell ⟨G, 0, none⟩ a).setCell ⟨G, 1, none⟩ b) g n c A q B lo hi s1 s2 d := by
  have l2 := J.ord
  exact ⟨(J.rd.setAt (by omega)).setAt (by omega), grown_app (grown_app J.gr (grown_set _ _ _ _) (fun k e => by injection e with e; omega)) (grown_set _ _ _ _) (fun k e => by injection e with e; omega), (set2_other (by omega)).trans J.row, (set2_other (by omega)).trans J.box, J.own.keptBy (by simp [World.setCell]) (fun p h1 h2 _ => set2_other (by omega)), J.ord⟩
theorem KSt.out (J : KSt w X g n c A q B lo hi s1 s2 d) (hd : deskB d = true) (few : d.2.length ≤ 7) :
    DDr w ((X.setCell ⟨w.heap.size, 0, none⟩ s1).setCell ⟨w.heap.size, 1, none⟩ s2) lo hi (.agg #[s1, s2]) d ∧ Rd ((X.setCell ⟨w.heap.size, 0, none⟩ s1).setCell ⟨w.heap.size, 1, none⟩ s2) g A n c q ∧ w.grownBy ((X.setCell ⟨w.heap.size, 0, none⟩ s1).setCell ⟨w.heap.size, 1, none⟩ s2) (some g) := by
  have l1 := J.lt
  have l2 := J.ord
  exact ⟨⟨J.own.keptBy (by simp [World.setCell]) (fun p h1 _ _ => set2_other (by omega)), few, desk_lens61 hd, by omega⟩, (J.rd.setAt (by omega)).setAt (by omega), grown_app (grown_app J.gr (grown_set _ _ _ _) (fun k e => by injection e with e; omega)) (grown_set _ _ _ _) (fun k e => by injection e with e; omega)⟩
theorem KSt.vals (J : KSt w X g n c A q B lo hi s1 s2 d) : ∃ vs, (VOwns 23 X lo s2 vs ∧ ∀ q, s2.ownBlock = some q → q < hi) ∧ InZ X lo hi (s1 :: vs) (d.1 :: d.2) ∧ hi ≤ X.heap.size := by
  obtain ⟨n0, p0, vs, e, h1, h2, h3⟩ := J.own
  cases e
  exact ⟨vs, h1, h2, h3⟩
theorem KSt.newNow (J : KSt w X g n c A q B lo hi s1 s2 d) (hd : deskB d = true) (few : d.2.length ≤ 7) {F : World}
    (hF : F = (((X.alloc (.cells #[.int .i64 31, .int .i64 0] 53)).setCell ⟨B, 0, none⟩ (.slice (some ⟨X.heap.size, 0, none⟩) 1 1)).setCell ⟨w.heap.size, 0, none⟩ (.slice (some ⟨X.heap.size, 0, none⟩) 1 1)).setCell ⟨w.heap.size, 1, none⟩ s2) :
    DDr w F lo F.heap.size (.agg #[.slice (some ⟨X.heap.size, 0, none⟩) 1 1, s2]) ([(31, 0)], d.2) ∧ Rd F g A n c q ∧ w.grownBy F (some g) := by
  have l1 := J.lt
  have l2 := J.ord
  obtain ⟨vs, ⟨hv1, hv2⟩, hI, hf⟩ := J.vals
  have bA := box_below X #[.int .i64 31, .int .i64 0] 53
  have zA := World.size_alloc X (.cells #[.int .i64 31, .int .i64 0] 53)
  have JA := J.below bA
  have hu : Owns (X.alloc (.cells #[.int .i64 31, .int .i64 0] 53)) X.heap.size (.slice (some ⟨X.heap.size, 0, none⟩) 1 1) [(31, 0)] := World.ownsRow_lit X #[.int .i64 31, .int .i64 0] 1 (Nat.le_refl _) (by simp [maxLen]) rfl
  have hk : ∀ q, q ≠ B → q ≠ w.heap.size → F.heap[q]? = (X.alloc (.cells #[.int .i64 31, .int .i64 0] 53)).heap[q]? := fun q h1 h2 => by
    rw [hF]; exact (set2_other h2).trans (heap_setCell_other _ _ _ _ h1)
  have hz : F.heap.size = X.heap.size + 1 := by rw [hF]; simp [World.setCell]
  have huF : Owns F X.heap.size (.slice (some ⟨X.heap.size, 0, none⟩) 1 1) [(31, 0)] := hu.keptBy fun q e => by
    have e' : X.heap.size = q := Option.some.inj e
    subst e'
    exact hk _ (by omega) (by omega)
  have hIF : InZ F lo X.heap.size vs d.2 := (((hI.dropZ 1).keptBy (w' := F) (fun q h1 h2 h3 => (hk q (by omega) (by omega)).trans (bA.block q h3)))).wider (Nat.le_refl _) hf
  have hvF : VOwns 23 F lo s2 vs := hv1.keptBy fun q e => by
    have h1 := (hv1.lt q e).1
    have h2 := hv2 q e
    exact (hk q (by omega) (by omega)).trans (bA.block q (by omega))
  refine ⟨⟨⟨_, _, vs, rfl, ⟨hvF, fun q e => by have h2 := hv2 q e; omega⟩, hIF.cons (OZ.of huF (Nat.le_refl _)) (by omega) (by omega), Nat.le_refl _⟩, few, ⟨by simp, (desk_lens61 hd).2⟩, by omega⟩, ?_, ?_⟩
  · rw [hF]; exact ((JA.rd.setAt (by omega)).setAt (by omega)).setAt (by omega)
  · rw [hF]; exact grown_app (grown_app (grown_app JA.gr (grown_set _ _ _ _) (fun k e => by injection e with e; omega)) (grown_set _ _ _ _) (fun k e => by injection e with e; omega)) (grown_set _ _ _ _) (fun k e => by injection e with e; omega)
theorem KSt.morePast (J : KSt w X g n c A q B lo hi s1 s2 d) (hd : deskB d = true) (few : d.2.length ≤ 6) {u v4 : Value} {Y w4 F : World} {vs : List Value} {p : List Sp} (hI : InZ X lo hi (s1 :: vs) (d.1 :: d.2)) (hv2 : ∀ q, s2.ownBlock = some q → q < hi) (hvY : VOwns 23 Y lo s2 vs)
    (bY : Below X.heap.size X Y) (hu : Owns Y X.heap.size u p) (hp : p.length ≤ 61) (o4 : VOwns 23 w4 lo v4 (vs ++ [u])) (g4 : Y.grownBy w4 s2.ownBlock) (hv4 : v4.ownBlock = s2.ownBlock ∨ v4.ownBlock = some Y.heap.size)
    (hF : F = ((w4.setCell ⟨B, 1, none⟩ v4).setCell ⟨w.heap.size, 0, none⟩ s1).setCell ⟨w.heap.size, 1, none⟩ v4) :
    DDr w F lo F.heap.size (.agg #[s1, v4]) (d.1, d.2 ++ [p]) ∧ Rd F g A n c q ∧ w.grownBy F (some g) := by
  have l1 := J.lt
  have l2 := J.ord
  have JA := J.below bY
  have zY := bY.size
  have z4 := g4.size
  have hf := J.own.o.fits
  have hz : F.heap.size = w4.heap.size := by rw [hF]; simp [World.setCell]
  have hk : ∀ q, q ≠ B → q ≠ w.heap.size → F.heap[q]? = w4.heap[q]? := fun q h1 h2 => by
    rw [hF]; exact (set2_other h2).trans (heap_setCell_other _ _ _ _ h1)
  have hs : ∀ q, s2.ownBlock = some q → lo ≤ q ∧ q < hi := fun q e => ⟨(hvY.lt q e).1, hv2 q e⟩
  have hI4 : InZ w4 lo hi (s1 :: vs) (d.1 :: d.2) := (hI.keptBy (w' := Y) (fun q _ _ h3 => bY.block q h3)).grownV hvY g4
  have hIF : InZ F lo X.heap.size (s1 :: vs) (d.1 :: d.2) := (hI4.keptBy (w' := F) (fun q h1 h2 h3 => hk q (by omega) (by omega))).wider (Nat.le_refl _) hf
  have hu4 : Owns w4 X.heap.size u p := hu.grown g4 (by
    cases hq : u.ownBlock with
    | none => exact .inl rfl
    | some q => exact .inr (fun e => by have := (hu.lt q hq).1; have := hs q e.symm; omega))
  have huF : Owns F X.heap.size u p := hu4.keptBy fun q e => by
    have := (hu.lt q e).1
    exact hk q (by omega) (by omega)
  have h4q : ∀ q, v4.ownBlock = some q → q ≠ B ∧ q ≠ w.heap.size := fun q e => by
    rcases hv4 with h | h
    · rw [h] at e; have := hs q e; omega
    · rw [h] at e; injection e with e; omega
  have hvF : VOwns 23 F lo v4 (vs ++ [u]) := o4.keptBy fun q e => hk q (h4q q e).1 (h4q q e).2
  have r4 : Rd w4 g A n c q := JA.rd.app g4 (fun k e => by have := hs k e; omega)
  refine ⟨⟨⟨_, _, vs ++ [u], rfl, ⟨hvF, fun q e => (hvF.lt q e).2⟩, hIF.snoc (OZ.of huF (Nat.le_refl _)) (by omega) (by omega), Nat.le_refl _⟩, by simp only [List.length_append, List.length_singleton]; omega, ⟨(desk_lens61 hd).1, fun x hx => ?_⟩, by omega⟩, ?_, ?_⟩
  · rcases List.mem_append.1 hx with h | h
    · exact (desk_lens61 hd).2 x h
    · rw [List.mem_singleton.1 h]; exact hp
  · rw [hF]; exact ((r4.setAt (by omega)).setAt (by omega)).setAt (by omega)
  · rw [hF]; exact grown_app (grown_app (grown_app (grown_app JA.gr g4 (fun k e => by have := hs k e; omega)) (grown_set _ _ _ _) (fun k e => by injection e with e; omega)) (grown_set _ _ _ _) (fun k e => by injection e with e; omega)) (grown_set _ _ _ _) (fun k e => by injection e with e; omega)
end
end Go.Proofs.YtkiidmdgdjphjaaGreat
