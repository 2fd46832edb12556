/- UnionOf, CommonOf and WithinOk of the program. No conditions but those typed. -/
import Derived.Test.YtkiidmdgdjphjaaGreatMergeE
import Derived.Test.YtkiidmdgdjphjaaGreatTold
import Derived.Test.YtkiidmdgdjphjaaGreatMergeB
import Derived.Test.YtkiidmdgdjphjaaGreatPlain
namespace Go.Proofs.YtkiidmdgdjphjaaGreat
open Go.RowKit Go.Sort

/-- what is handed back beside a truth -/
def Gives2 (ps : List Sp) (b : Bool) (w : World) (e : Ending) (w' : World) : Prop := ∃ v', e = .returned (.tuple #[v', .bool b]) ∧ Owns w' w.heap.size v' ps ∧ Below w.heap.size w w'
def Gives1 (ps : List Sp) (w : World) (e : Ending) (w' : World) : Prop := ∃ v', e = .returned v' ∧ Owns w' w.heap.size v' ps ∧ Below w.heap.size w w'

set_option maxHeartbeats 400000 in
theorem implUnion_any (p q : List Sp) (v v' : Value) (w : World) (h : Reads w w.heap.size v p) (h' : Reads w w.heap.size v' q) : Calls Tryz.prog 59 #[v, v'] w (Gives2 (unionL p q) (unionOk p q) w) := by
  rcases hp : picB p with _ | _
  · obtain ⟨e1, e2⟩ := union_no (bothB_l (q := q) hp)
    rw [e1, e2]
    go_enter Tryz.func59, Tryz.ntmps59
    go_wp2_with fail
    refine (gives_is hp (implPicture_any p _ _ h)).mono ?_
    rintro e w1 ⟨rfl, b1⟩
    go_wp2
    go_ret2
    exact ⟨_, rfl, Owns.nil _ _, b1⟩
  · rcases hq : picB q with _ | _
    · obtain ⟨e1, e2⟩ := union_no (bothB_r (p := p) hq)
      rw [e1, e2]
      go_enter Tryz.func59, Tryz.ntmps59
      go_wp2_with fail
      refine (gives_is hp (implPicture_any p _ _ h)).mono ?_
      rintro e w1 ⟨rfl, b1⟩
      go_wp2_with fail
      refine (gives_is hq (implPicture_any q _ _ (h'.kept b1))).mono ?_
      rintro e w2 ⟨rfl, b2⟩
      go_wp2
      go_ret2
      exact ⟨_, rfl, Owns.nil _ _, below_step b1 b2⟩
    · have hP := picB_pic hp
      have hQ := picB_pic hq
      have hm := merge_union hP.2.2 hQ.2.2
      have hlp := hP.1
      have hlq := hQ.1
      have hboth := bothB_y hp hq
      by_cases hbig : (puts p q).length ≤ 60
      · have HT := Lib.hid (picB_puts hP hQ hbig)
        obtain ⟨e1, e2⟩ := union_yes hboth hbig
        rw [e1, e2]
        clear e1 e2 hP hQ hboth
        go_enter Tryz.func59, Tryz.ntmps59
        go_wp2_with fail
        refine (gives_is hp (implPicture_any p _ _ h)).mono ?_
        rintro e w1 ⟨rfl, b1⟩
        go_wp2_with fail
        refine (gives_is hq (implPicture_any q _ _ (h'.kept b1))).mono ?_
        rintro e w2 ⟨rfl, b2⟩
        have bb := below_step b1 b2
        clear hp hq b1 b2
        go_wp2_with fail
        refine (mergedEither_any p q _ _ _ (h.kept bb) (h'.kept bb) (by omega)).mono ?_
        rintro e w3 ⟨v3, rfl, o3, b3⟩
        rw [hm] at o3
        clear hm
        obtain ⟨A3, c3, rfl, _, _⟩ := o3.reads.slice
        go_wp2_with fail
        refine (told_yes HT.out o3).mono ?_
        rintro e w4 ⟨rfl, b4⟩
        go_wp2
        go_ret2
        exact ⟨_, rfl, (o3.base bb.size).below b4, below_step (below_step bb b3) b4⟩
      · have HT := Lib.hid (picB_puts_no (p := p) (q := q) hbig)
        obtain ⟨e1, e2⟩ := union_big hbig
        rw [e1, e2]
        clear e1 e2 hP hQ hboth
        go_enter Tryz.func59, Tryz.ntmps59
        go_wp2_with fail
        refine (gives_is hp (implPicture_any p _ _ h)).mono ?_
        rintro e w1 ⟨rfl, b1⟩
        go_wp2_with fail
        refine (gives_is hq (implPicture_any q _ _ (h'.kept b1))).mono ?_
        rintro e w2 ⟨rfl, b2⟩
        have bb := below_step b1 b2
        clear hp hq b1 b2
        go_wp2_with fail
        refine (mergedEither_any p q _ _ _ (h.kept bb) (h'.kept bb) (by omega)).mono ?_
        rintro e w3 ⟨v3, rfl, o3, b3⟩
        rw [hm] at o3
        clear hm
        obtain ⟨A3, c3, rfl, _, _⟩ := o3.reads.slice
        go_wp2_with fail
        refine (told_no HT.out o3).mono ?_
        rintro e w4 ⟨rfl, b4⟩
        go_wp2
        go_ret2
        exact ⟨_, rfl, Owns.nil _ _, below_step (below_step bb b3) b4⟩

set_option maxHeartbeats 400000 in
theorem implCommon_any (p q : List Sp) (v v' : Value) (w : World) (h : Reads w w.heap.size v p) (h' : Reads w w.heap.size v' q) : Calls Tryz.prog 29 #[v, v'] w (Gives1 (commonL p q) w) := by
  rcases hp : picB p with _ | _
  · rw [common_no (bothB_l (q := q) hp)]
    go_enter Tryz.func29, Tryz.ntmps29
    go_wp2_with fail
    refine (gives_is hp (implPicture_any p _ _ h)).mono ?_
    rintro e w1 ⟨rfl, b1⟩
    go_wp2
    go_ret
    exact ⟨_, rfl, Owns.nil _ _, b1⟩
  · rcases hq : picB q with _ | _
    · rw [common_no (bothB_r (p := p) hq)]
      go_enter Tryz.func29, Tryz.ntmps29
      go_wp2_with fail
      refine (gives_is hp (implPicture_any p _ _ h)).mono ?_
      rintro e w1 ⟨rfl, b1⟩
      go_wp2_with fail
      refine (gives_is hq (implPicture_any q _ _ (h'.kept b1))).mono ?_
      rintro e w2 ⟨rfl, b2⟩
      go_wp2
      go_ret
      exact ⟨_, rfl, Owns.nil _ _, below_step b1 b2⟩
    · have hP := picB_pic hp
      have hQ := picB_pic hq
      have hm := merge_common hP.2.2 hQ.2.2
      have hlp := hP.1
      have hlq := hQ.1
      rw [common_yes (bothB_y hp hq)]
      clear hP hQ
      go_enter Tryz.func29, Tryz.ntmps29
      go_wp2_with fail
      refine (gives_is hp (implPicture_any p _ _ h)).mono ?_
      rintro e w1 ⟨rfl, b1⟩
      go_wp2_with fail
      refine (gives_is hq (implPicture_any q _ _ (h'.kept b1))).mono ?_
      rintro e w2 ⟨rfl, b2⟩
      have bb := below_step b1 b2
      clear hp hq b1 b2
      go_wp2_with fail
      refine (mergedBoth_any p q _ _ _ (h.kept bb) (h'.kept bb) (by omega)).mono ?_
      rintro e w3 ⟨v3, rfl, o3, b3⟩
      rw [hm] at o3
      clear hm
      go_wp2
      go_ret
      exact ⟨_, rfl, o3.base bb.size, below_step bb b3⟩

set_option maxHeartbeats 400000 in
theorem implWithin_any (p q : List Sp) (v v' : Value) (w : World) (h : Reads w w.heap.size v p) (h' : Reads w w.heap.size v' q) : Calls Tryz.prog 11 #[v, v'] w (Gives (.bool (withinB p q)) w) := by
  obtain ⟨A0, c0, rfl, _, _⟩ := h.slice
  rcases hp : picB p with _ | _
  · rw [within_no (bothB_l (q := q) hp)]
    go_enter Tryz.func11, Tryz.ntmps11
    go_wp2_with fail
    refine (gives_is hp (implPicture_any p _ _ h)).mono ?_
    rintro e w1 ⟨rfl, b1⟩
    go_wp2
    go_ret
    exact ⟨rfl, b1⟩
  · rcases hq : picB q with _ | _
    · rw [within_no (bothB_r (p := p) hq)]
      go_enter Tryz.func11, Tryz.ntmps11
      go_wp2_with fail
      refine (gives_is hp (implPicture_any p _ _ h)).mono ?_
      rintro e w1 ⟨rfl, b1⟩
      go_wp2_with fail
      refine (gives_is hq (implPicture_any q _ _ (h'.kept b1))).mono ?_
      rintro e w2 ⟨rfl, b2⟩
      go_wp2
      go_ret
      exact ⟨rfl, below_step b1 b2⟩
    · rw [within_yes (bothB_y hp hq)]
      have hc := common_yes (bothB_y hp hq)
      go_enter Tryz.func11, Tryz.ntmps11
      go_wp2_with fail
      refine (gives_is hp (implPicture_any p _ _ h)).mono ?_
      rintro e w1 ⟨rfl, b1⟩
      go_wp2_with fail
      refine (gives_is hq (implPicture_any q _ _ (h'.kept b1))).mono ?_
      rintro e w2 ⟨rfl, b2⟩
      have bb := below_step b1 b2
      clear hp hq b1 b2
      go_wp2_with fail
      refine (implCommon_any p q _ _ _ (h.kept bb) (h'.kept bb)).mono ?_
      rintro e w3 ⟨v3, rfl, o3, b3⟩
      rw [hc] at o3
      clear hc
      obtain ⟨A3, c3, rfl, _, _⟩ := o3.reads.slice
      go_wp2
      go_ret
      exact ⟨ret_bool (by rw [Bool.eq_iff_iff]; simp <;> omega), below_step bb b3⟩
end Go.Proofs.YtkiidmdgdjphjaaGreat
