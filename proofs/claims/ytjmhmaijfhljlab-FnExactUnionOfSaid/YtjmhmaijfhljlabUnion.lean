/- UnionOf, CommonOf and WithinOk of the program. No conditions but those typed. -/
import Derived.Test.YtjmhmaijfhljlabMergeE
import Derived.Test.YtjmhmaijfhljlabTold
import Derived.Test.YtjmhmaijfhljlabMergeB
namespace Go.Proofs.Ytjmhmaijfhljlab
open Go.RowKit Go.Sort

def bothB (p q : List Sp) : Bool := picB p && picB q
def unionOk (p q : List Sp) : Bool := bothB p q && decide ((puts p q).length ≤ 60)
def unionL (p q : List Sp) : List Sp := if unionOk p q then puts p q else []
def commonL (p q : List Sp) : List Sp := if bothB p q then common p q else []
def withinB (p q : List Sp) : Bool := bothB p q && decide ((common p q).length = p.length)
theorem bothB_l {p q : List Sp} (h : picB p = false) : bothB p q = false := by unfold bothB; rw [h]; rfl
theorem bothB_r {p q : List Sp} (h : picB q = false) : bothB p q = false := by unfold bothB; rw [h, Bool.and_false]
theorem bothB_y {p q : List Sp} (h : picB p = true) (k : picB q = true) : bothB p q = true := by unfold bothB; rw [h, k]; rfl
theorem union_no {p q : List Sp} (h : bothB p q = false) : unionOk p q = false ∧ unionL p q = [] := by
  have : unionOk p q = false := by unfold unionOk; rw [h]; rfl
  exact ⟨this, by unfold unionL; rw [this]; rfl⟩
theorem union_big {p q : List Sp} (h : ¬ (puts p q).length ≤ 60) : unionOk p q = false ∧ unionL p q = [] := by
  have : unionOk p q = false := by unfold unionOk; rw [decide_eq_false h, Bool.and_false]
  exact ⟨this, by unfold unionL; rw [this]; rfl⟩
theorem union_yes {p q : List Sp} (h : bothB p q = true) (k : (puts p q).length ≤ 60) : unionOk p q = true ∧ unionL p q = puts p q := by
  have : unionOk p q = true := by unfold unionOk; rw [h, decide_eq_true k]; rfl
  exact ⟨this, by unfold unionL; rw [this]; rfl⟩
theorem common_no {p q : List Sp} (h : bothB p q = false) : commonL p q = [] := by unfold commonL; rw [h]; rfl
theorem common_yes {p q : List Sp} (h : bothB p q = true) : commonL p q = common p q := by unfold commonL; rw [h]; rfl

theorem picB_puts {p q : List Sp} (hp : Pic p) (hq : Pic q) (h : (puts p q).length ≤ 60) : picB (puts p q) = true :=
  decide_eq_true ⟨h, fun a ha => (mem_puts.1 ha).elim (hp.2.1 a) (hq.2.1 a), sorted_puts hp.2.2⟩
theorem picB_puts_no {p q : List Sp} (h : ¬ (puts p q).length ≤ 60) : picB (puts p q) = false := decide_eq_false fun k => h k.1
/-- what is handed back beside a truth -/
def Gives2 (ps : List Sp) (b : Bool) (w : World) (e : Ending) (w' : World) : Prop := ∃ v', e = .returned (.tuple #[v', .bool b]) ∧ Owns w' w.heap.size v' ps ∧ Below w.heap.size w w'
def Gives1 (ps : List Sp) (w : World) (e : Ending) (w' : World) : Prop := ∃ v', e = .returned v' ∧ Owns w' w.heap.size v' ps ∧ Below w.heap.size w w'

set_option maxHeartbeats 400000 in
theorem implUnion_any (p q : List Sp) (v v' : Value) (w : World) (h : Reads w w.heap.size v p) (h' : Reads w w.heap.size v' q) : Calls Try.prog 23 #[v, v'] w (Gives2 (unionL p q) (unionOk p q) w) := by
  rcases hp : picB p with _ | _
  · obtain ⟨e1, e2⟩ := union_no (bothB_l (q := q) hp)
    rw [e1, e2]
    go_enter Try.func23, Try.ntmps23
    go_wp2_with fail
    refine (gives_is hp (implPicture_any p _ _ h)).mono ?_
    rintro e w1 ⟨rfl, b1⟩
    go_wp2
    go_ret2
    exact ⟨_, rfl, Owns.nil _ _, b1⟩
  · rcases hq : picB q with _ | _
    · obtain ⟨e1, e2⟩ := union_no (bothB_r (p := p) hq)
      rw [e1, e2]
      go_enter Try.func23, Try.ntmps23
      go_wp2_with fail
      refine (gives_is hp (implPicture_any p _ _ h)).mono ?_
      rintro e w1 ⟨rfl, b1⟩
      go_wp2_with fail
      refine (gives_is hq (implPicture_any q _ _ (h'.kept b1))).mono ?_
      rintro e w2 ⟨rfl, b2⟩
      go_wp2
      go_ret2
      exact ⟨_, rfl, Owns.nil _ _, below_step b1 b2⟩
    · have hP := picB_pic hp
      have hQ := picB_pic hq
      have hm := merge_union hP.2.2 hQ.2.2
      have hlp := hP.1
      have hlq := hQ.1
      have hboth := bothB_y hp hq
      by_cases hbig : (puts p q).length ≤ 60
      · have HT := Lib.hid (picB_puts hP hQ hbig)
        obtain ⟨e1, e2⟩ := union_yes hboth hbig
        rw [e1, e2]
        clear e1 e2 hP hQ hboth
        go_enter Try.func23, Try.ntmps23
        go_wp2_with fail
        refine (gives_is hp (implPicture_any p _ _ h)).mono ?_
        rintro e w1 ⟨rfl, b1⟩
        go_wp2_with fail
        refine (gives_is hq (implPicture_any q _ _ (h'.kept b1))).mono ?_
        rintro e w2 ⟨rfl, b2⟩
        have bb := below_step b1 b2
        clear hp hq b1 b2
        go_wp2_with fail
        refine (mergedEither_any p q _ _ _ (h.kept bb) (h'.kept bb) (by omega)).mono ?_
        rintro e w3 ⟨v3, rfl, o3, b3⟩
        rw [hm] at o3
        clear hm
        obtain ⟨A3, c3, rfl, _, _⟩ := o3.reads.slice
        go_wp2_with fail
        refine (told_yes HT.out o3).mono ?_
        rintro e w4 ⟨rfl, b4⟩
        go_wp2
        go_ret2
        exact ⟨_, rfl, (o3.base bb.size).below b4, below_step (below_step bb b3) b4⟩
      · have HT := Lib.hid (picB_puts_no (p := p) (q := q) hbig)
        obtain ⟨e1, e2⟩ := union_big hbig
        rw [e1, e2]
        clear e1 e2 hP hQ hboth
        go_enter Try.func23, Try.ntmps23
        go_wp2_with fail
        refine (gives_is hp (implPicture_any p _ _ h)).mono ?_
        rintro e w1 ⟨rfl, b1⟩
        go_wp2_with fail
        refine (gives_is hq (implPicture_any q _ _ (h'.kept b1))).mono ?_
        rintro e w2 ⟨rfl, b2⟩
        have bb := below_step b1 b2
        clear hp hq b1 b2
        go_wp2_with fail
        refine (mergedEither_any p q _ _ _ (h.kept bb) (h'.kept bb) (by omega)).mono ?_
        rintro e w3 ⟨v3, rfl, o3, b3⟩
        rw [hm] at o3
        clear hm
        obtain ⟨A3, c3, rfl, _, _⟩ := o3.reads.slice
        go_wp2_with fail
        refine (told_no HT.out o3).mono ?_
        rintro e w4 ⟨rfl, b4⟩
        go_wp2
        go_ret2
        exact ⟨_, rfl, Owns.nil _ _, below_step (below_step bb b3) b4⟩

theorem within_no {p q : List Sp} (h : bothB p q = false) : withinB p q = false := by unfold withinB; rw [h]; rfl
theorem within_yes {p q : List Sp} (h : bothB p q = true) : withinB p q = decide ((common p q).length = p.length) := by unfold withinB; rw [h]; rfl

end Go.Proofs.Ytjmhmaijfhljlab
