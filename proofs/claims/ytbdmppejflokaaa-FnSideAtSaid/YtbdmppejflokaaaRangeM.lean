/- A range over an iterator that hands on what lies in memory: the rounds are told what they are handed, in the world in which they are handed it; what the loop may write is named block by block. No program is named. No conditions but those that stand in each theorem. -/
import Derived.RangeFuncBox
import Derived.RangeFuncLeaves
import Derived.RangeFuncCalls
import Derived.Lib.Hide
namespace Go.Proofs.Ytbdmppejflokaaa
open Go.RowKit

/-- w' is as w was but for the blocks that are the loop's own, and for what is new. -/
structure Saves (own : Nat → Prop) (w w' : World) : Prop where
  os : w'.os = w.os
  tape : w'.tape = w.tape
  output : w'.output = w.output
  size : w.heap.size ≤ w'.heap.size
  block : ∀ k, k < w.heap.size → ¬ own k → w'.heap[k]? = w.heap[k]?
section
variable {own : Nat → Prop} {a b c : World}
theorem Saves.refl (own : Nat → Prop) (w : World) : Saves own w w := ⟨rfl, rfl, rfl, Nat.le_refl _, fun _ _ _ => rfl⟩
theorem Saves.trans (h : Saves own a b) (k : Saves own b c) : Saves own a c :=
  ⟨k.os.trans h.os, k.tape.trans h.tape, k.output.trans h.output, Nat.le_trans h.size k.size, fun i hi ho => (k.block i (Nat.lt_of_lt_of_le hi h.size) ho).trans (h.block i hi ho)⟩
theorem Saves.of_below (h : Below a.heap.size a b) : Saves own a b := ⟨h.os, h.tape, h.output, h.size, fun k hk _ => h.block k hk⟩
theorem Saves.of_grown {j : Nat} (h : a.grownBy b (some j)) (hj : own j) : Saves own a b :=
  ⟨h.os, h.tape, h.output, h.size, fun k hk ho => h.block k hk (fun e => ho (by cases e; exact hj))⟩
theorem Saves.put (w : World) {l : Nat} (hl : own l) (o : Obj) : Saves own w (w.putObj l o) := Saves.of_grown (grownBy_putObj' w l o) hl
theorem Saves.set (w : World) {l : Nat} (hl : own l) (v : Value) : Saves own w (w.setCell ⟨l, 0, none⟩ v) := Saves.of_grown (grownBy_setCell' w l v) hl
/-- below a number under which nothing is the loop's own -/
theorem Saves.below {n : Nat} (h : Saves own a b) (hn : n ≤ a.heap.size) (ho : ∀ k, own k → n ≤ k) : Below n a b :=
  ⟨h.os, h.tape, h.output, h.size, fun k hk => h.block k (Nat.lt_of_lt_of_le hk hn) (fun e => by have := ho k e; omega)⟩
end

/-- it speaks of cells alone -/
def OfCells (I : World → Prop) : Prop := ∀ A B, I A → A.heap.size ≤ B.heap.size → (∀ (k : Nat) (o : Obj), A.heap[k]? = some o → o.isCells = true → B.heap[k]? = some o) → I B
theorem OfCells.below {I : World → Prop} (h : OfCells I) {A B : World} (hi : I A) (hb : Below A.heap.size A B) : I B :=
  h A B hi hb.size fun k _ hk _ => (hb.block k (Array.getElem?_eq_some_iff.1 hk).1).trans hk
theorem OfCells.put {I : World → Prop} (h : OfCells I) {W : World} {l : Nat} {o : Obj} (o' : Obj) (hi : I W) (hl : W.heap[l]? = some o) (ho : o.isCells = false) : I (W.putObj l o') := by
  have hg := grownBy_putObj' W l o'
  refine h W _ hi hg.size fun k o2 hk hc => (hg.block k (Array.getElem?_eq_some_iff.1 hk).1 fun e => ?_).trans hk
  obtain rfl : k = l := by simpa using e
  rw [hk] at hl; cases hl; rw [hc] at ho; cases ho
theorem OfCells.and {I J : World → Prop} (h : OfCells I) (k : OfCells J) : OfCells fun w => I w ∧ J w := fun A B hi hs hc => ⟨h A B hi.1 hs hc, k A B hi.2 hs hc⟩
theorem OfCells.pure (p : Prop) : OfCells fun _ => p := fun _ _ h _ _ => h
theorem OfCells.boxed (B : Nat) (t : TypeId) (v : Value) : OfCells fun w => Boxed w B t v := fun _ _ hi _ hc => hc _ _ hi rfl

/-- An iterator that hands on, in the k-th of N rounds, something of which Rs says, in the world of that round, what it is. What a round that goes on may write: own's blocks. -/
def SeqM {X : Type} (F : Fence) (n : Nat) (P : Program) (g : Nat) (lb : Array Value) (encs : X → Array Value) (Rs : Nat → X → World → Prop) (N : Nat) (own : Nat → Prop) (w : World) : Prop :=
  ∀ (l : Nat) (J Jx : Nat → World → Prop) (W : World), Below w.heap.size w W → W.heap.size = w.heap.size + 2 →
    (∀ k A B, J k A → Below A.heap.size A B → J k B) → (∀ k A B, Jx k A → Below A.heap.size A B → Jx k B) →
    (∀ k x W1, J k W1 → k < N → Rs k x W1 → YieldAt F (n - 1) P l (encs x) W1 fun e W' =>
      (e = .returned (.bool true) ∧ J (k + 1) W' ∧ Saves own W1 W') ∨ (e = .returned (.bool false) ∧ Jx k W')) →
    J 0 W →
    CallsIn F n P g (#[.func (.yield l) #[] #[]] ++ lb) W fun e W' => (∃ v, e = .returned v) ∧ (J N W' ∨ ∃ k, k < N ∧ Jx k W')

/-- how the body of a round may be left -/
def postM (own : Nat → Prop) (I : Nat → World → Prop) (Ix : Code → Nat → World → Prop) (k : Nat) (W : World) : Exit → Act → World → Prop
  | .normal, _, W' => KeepsOthers W W' ∧ Saves own W W' ∧ I (k + 1) W'
  | .ret, _, W' => KeepsOthers W W' ∧ Saves own W W' ∧ Ix .ret k W'
  | .exit id, _, W' => KeepsOthers W W' ∧ Saves own W W' ∧ Ix (.exit id) k W'
  | .goto t, _, W' => KeepsOthers W W' ∧ Saves own W W' ∧ Ix (.goto t) k W'
  | .panic _, _, _ => False
  | .outgrown, _, _ => False

theorem wpIn_rangeFunc_mem {F : Fence} {n : Nat} {P : Program} {X : Type} {g : Operand} {ps : Array Tmp} {assign body : Code} {Q : Exit → Act → World → Prop} {a : Act} {w : World}
    (hro : F.round = none) (h1 : 1 ≤ n) {gf : Nat} {lb : Array Value} (hg : a.eval g = .func (.func gf) #[] lb) (hFg : F.fn gf) (eg : ∀ args w, (callFunc gf args).run P w = .ok (.enter gf args) w)
    {encs : X → Array Value} {Rs : Nat → X → World → Prop} {N : Nat} {own : Nat → Prop} (hseq : SeqM F (n - 1) P gf lb encs Rs N own w)
    (hps : ∀ x, (encs x).size = ps.size) (hRs : ∀ k x, OfCells (Rs k x)) (ho : own w.heap.size) (ho' : own (w.heap.size + 1))
    (I : Nat → World → Prop) (Ix : Code → Nat → World → Prop) (hI : ∀ k, OfCells (I k)) (hIx : ∀ c k, OfCells (Ix c k)) (h0 : I 0 w) (a₁ : X → Act)
    (hassign : ∀ (l : Nat) (x : X) (W : World) (K : Act → World → Prop), K (a₁ x) W →
      assign.wpIn (F.inRound l) (n - 1 - 1) P (Exit.then K (fun _ _ _ => False)) { tmps := (ps.zip (encs x)).foldl (fun t (p, v) => t.setIfInBounds p v) a.tmps, defers := [] } W)
    (hbody : ∀ (l k : Nat) (x : X) (W : World), I k W → k < N → Rs k x W → Saves own w W → w.heap.size + 2 ≤ W.heap.size → body.wpIn (F.inRound l) (n - 1 - 1) P (postM own I Ix k W) (a₁ x) W)
    (hdone : ∀ (D : Nat) (W : World), I N W → Saves own w W → own D → W.heap[D]? = some (.deferred (some [])) → Q .normal { a with defers := { target := .collected D, args := #[] } :: a.defers } W)
    (hstop : ∀ (D : Nat) (c : Code) (k : Nat) (W : World), k < N → Ix c k W → Saves own w W → own D → W.heap[D]? = some (.deferred (some [])) → c.wpIn F n P Q { a with defers := { target := .collected D, args := #[] } :: a.defers } W) :
    (Code.rangeFunc g ps assign body).wpIn F n P Q a w := by
  refine wpIn_rangeFunc ?_
  intro fn hfn
  rw [hro]
  obtain ⟨rec, hrec⟩ : ∃ rec : LoopState → Option Code → Loop, rec = fun st pe => { state := st, pending := pe, fn, tmps := a.tmps, params := ps, assign, body, defers := w.heap.size } := ⟨_, rfl⟩
  obtain ⟨W1, hW1⟩ : ∃ W1, (w.alloc (.deferred (some []))).alloc (.loop (rec .ready none)) = W1 := ⟨_, rfl⟩
  have hL1 : W1.heap[w.heap.size + 1]? = some (.loop (rec .ready none)) := by
    rw [← hW1]; have := World.alloc_heap_new (w.alloc (.deferred (some []))) (.loop (rec .ready none)); rwa [World.size_alloc] at this
  have hK1 : W1.heap[w.heap.size]? = some (.deferred (some [])) := by
    rw [← hW1]; exact (Below.heap_alloc _ _ _ (by simp)).trans (World.alloc_heap_new w _)
  have hs1 : W1.heap.size = w.heap.size + 2 := by rw [← hW1]; simp
  have hb1 : Below w.heap.size w W1 := by
    rw [← hW1]; exact (((Below.refl _ w).alloc (Nat.le_refl _) _).alloc (by simp) _)
  have hI1 : I 0 W1 := (hI 0).below h0 hb1
  refine ⟨w.heap.size + 1, [{ target := .collected w.heap.size, args := #[] }], W1, { target := .fn (.func gf) lb, args := #[.func (.yield (w.heap.size + 1)) #[] #[]] }, W1, gf,
    #[.func (.yield (w.heap.size + 1)) #[] #[]] ++ lb, W1, ?_, ?_, ?_, ?_, fun _ => h1, ?_⟩
  · rw [← hW1, hrec]; exact run_enterLoop_outer _ _ _ _ _
  · simp only [resolve, hg]
    simp [go_sem]
  · intro f' hf'; simp [Target.leads] at hf'; subst hf'; exact hFg
  · simp [invoke, go_sem, eg]
  · have keep : ∀ {A B : World} {k : Nat} {o : Obj}, Below A.heap.size A B → A.heap[k]? = some o → B.heap[k]? = some o := fun hb hk => (hb.block _ (Array.getElem?_eq_some_iff.1 hk).1).trans hk
    refine (hseq (w.heap.size + 1)
      (fun k W => I k W ∧ Saves own w W ∧ W.heap[w.heap.size + 1]? = some (.loop (rec .ready none)) ∧ W.heap[w.heap.size]? = some (.deferred (some [])))
      (fun k W => ∃ c, Ix c k W ∧ Saves own w W ∧ W.heap[w.heap.size + 1]? = some (.loop (rec .done (some c))) ∧ W.heap[w.heap.size]? = some (.deferred (some [])))
      W1 hb1 hs1
      (fun k A B h hb => ⟨(hI k).below h.1 hb, h.2.1.trans (Saves.of_below hb), keep hb h.2.2.1, keep hb h.2.2.2⟩)
      (fun k A B h hb => by
        obtain ⟨c, hc, hs, hl, hk⟩ := h
        exact ⟨c, (hIx c k).below hc hb, hs.trans (Saves.of_below hb), keep hb hl, keep hb hk⟩)
      ?_ ⟨hI1, Saves.of_below hb1, hL1, hK1⟩).mono ?_
    · rintro k x W ⟨hi, hsv, hl, hk⟩ hlen hrs
      have hlt : w.heap.size + 1 < W.heap.size := (Array.getElem?_eq_some_iff.1 hl).1
      have hy := run_yield (P := P) (args := encs x) hl (by rw [hrec]; exact hps x)
      rw [hrec] at hy
      refine ⟨fn, _, assign, body, hy, roundIn_of_wpIn hfn (hassign _ x W _ ⟨_, run_beginRound hl (by rw [hrec]), ?_⟩)⟩
      have hl2 : (W.putObj (w.heap.size + 1) (.loop { rec .ready none with state := .busy })).heap[w.heap.size + 1]? = some (.loop { rec .ready none with state := .busy }) := World.putObj_heap_same hlt
      have hk2 : (W.putObj (w.heap.size + 1) (.loop { rec .ready none with state := .busy })).heap[w.heap.size]? = some (.deferred (some [])) := (World.putObj_heap_other (by omega)).trans hk
      have hw2 : Saves own W (W.putObj (w.heap.size + 1) (.loop { rec .ready none with state := .busy })) := Saves.put W ho' _
      refine wpIn_mono (hbody _ k x _ ((hI k).put _ hi hl rfl) hlen ((hRs k x).put _ hrs hl rfl) (hsv.trans hw2) (Nat.le_trans (by omega) hw2.size)) ?_
      have fin : ∀ (jump : Option Code) (W3 : World), KeepsOthers (W.putObj (w.heap.size + 1) (.loop { rec .ready none with state := .busy })) W3 →
          (Instr.endRound (w.heap.size + 1) jump).run P W3 = .ok (.bool jump.isNone) (W3.putObj (w.heap.size + 1) (.loop (rec (if jump.isNone then .ready else .done) jump))) ∧
          W3.heap[w.heap.size + 1]? = some (.loop { rec .ready none with state := .busy }) ∧
          (W3.putObj (w.heap.size + 1) (.loop (rec (if jump.isNone then .ready else .done) jump))).heap[w.heap.size + 1]? = some (.loop (rec (if jump.isNone then .ready else .done) jump)) ∧
          (W3.putObj (w.heap.size + 1) (.loop (rec (if jump.isNone then .ready else .done) jump))).heap[w.heap.size]? = some (.deferred (some [])) := fun jump W3 hk3 => by
        have hl3 := hk3.same _ _ hl2 rfl
        have := run_endRound (P := P) jump hl3
        rw [hrec] at this ⊢
        exact ⟨this, by rw [hrec] at hl3; exact hl3, World.putObj_heap_same (Array.getElem?_eq_some_iff.1 hl3).1, (World.putObj_heap_other (by omega)).trans (hk3.same _ _ hk2 rfl)⟩
      rintro e a3 W3 hp
      cases e with
      | normal =>
        obtain ⟨hk3, hs3, hi3⟩ := hp
        obtain ⟨hr, hl3, hl4, hk4⟩ := fin none W3 hk3
        exact ⟨_, _, hr, .inl ⟨rfl, ⟨(hI _).put _ hi3 hl3 rfl, (hsv.trans hw2).trans (hs3.trans (Saves.put W3 ho' _)), hl4, hk4⟩, hw2.trans (hs3.trans (Saves.put W3 ho' _))⟩⟩
      | ret =>
        obtain ⟨hk3, hs3, hi3⟩ := hp
        obtain ⟨hr, hl3, hl4, hk4⟩ := fin (some .ret) W3 hk3
        exact ⟨_, _, hr, .inr ⟨rfl, .ret, (hIx _ _).put _ hi3 hl3 rfl, (hsv.trans hw2).trans (hs3.trans (Saves.put W3 ho' _)), hl4, hk4⟩⟩
      | exit id =>
        obtain ⟨hk3, hs3, hi3⟩ := hp
        obtain ⟨hr, hl3, hl4, hk4⟩ := fin (some (.exit id)) W3 hk3
        exact ⟨_, _, hr, .inr ⟨rfl, .exit id, (hIx _ _).put _ hi3 hl3 rfl, (hsv.trans hw2).trans (hs3.trans (Saves.put W3 ho' _)), hl4, hk4⟩⟩
      | goto t =>
        obtain ⟨hk3, hs3, hi3⟩ := hp
        obtain ⟨hr, hl3, hl4, hk4⟩ := fin (some (.goto t)) W3 hk3
        exact ⟨_, _, hr, .inr ⟨rfl, .goto t, (hIx _ _).put _ hi3 hl3 rfl, (hsv.trans hw2).trans (hs3.trans (Saves.put W3 ho' _)), hl4, hk4⟩⟩
      | panic ch => exact hp.elim
      | outgrown => exact hp.elim
    · rintro e W2 ⟨⟨v, rfl⟩, (⟨hi, hsv, hl, hk⟩ | ⟨k, hkN, c, hi, hsv, hl, hk⟩)⟩
      · exact ⟨none, _, by have := run_endLoop (P := P) hl (by rw [hrec]; simp); rw [hrec] at this; exact this, hdone _ _ ((hI _).put _ hi hl rfl) (hsv.trans (Saves.put W2 ho' _)) ho ((World.putObj_heap_other (by omega)).trans hk)⟩
      · exact ⟨some c, _, by have := run_endLoop (P := P) hl (by rw [hrec]; simp); rw [hrec] at this; exact this, hstop _ c k _ hkN ((hIx c k).put _ hi hl rfl) (hsv.trans (Saves.put W2 ho' _)) ho ((World.putObj_heap_other (by omega)).trans hk)⟩
end Go.Proofs.Ytbdmppejflokaaa
