/- Desks of pictures, plainly: what a deed makes of a picture, the desk after a deed and after deeds, and what the laws of chapter 12 ask of them. No conditions but those typed. -/
import Derived.Test.YtgdifenicjgfjaaMove
namespace Go.Proofs.Ytgdifenicjgfjaa

/-- a desk: the picture, and those of before -/
abbrev Dk := List Sp × List (List Sp)
/-- a deed: its kind and both numbers -/
abbrev Dd := Sp × Int
def deskB (d : Dk) : Bool := picB d.1 && (decide (d.2.length ≤ 8) && d.2.all picB)
structure DeskIs (d : Dk) : Prop where
  now : picB d.1 = true
  few : d.2.length ≤ 8
  past : ∀ p ∈ d.2, picB p = true
theorem deskB_iff {d : Dk} : deskB d = true ↔ DeskIs d := by
  unfold deskB
  rw [Bool.and_eq_true, Bool.and_eq_true, decide_eq_true_eq, List.all_eq_true]
  exact ⟨fun h => ⟨h.1, h.2.1, h.2.2⟩, fun h => ⟨h.now, h.few, h.past⟩⟩
theorem desk_no1 {d : Dk} (h : picB d.1 = false) : deskB d = false := by unfold deskB; rw [h]; rfl
theorem desk_no2 {d : Dk} (h : ¬ d.2.length ≤ 8) : deskB d = false := by unfold deskB; rw [decide_eq_false h, Bool.false_and, Bool.and_false]
theorem desk_no3 {d : Dk} {p : List Sp} (h : p ∈ d.2) (k : picB p = false) : deskB d = false := by
  rcases e : deskB d with _ | _
  · rfl
  · rw [(deskB_iff.1 e).past p h] at k; cases k

/-- what a deed that is none of going back makes of a picture, if it is told -/
def madeV (p : List Sp) (a : Dd) : Option (List Sp) :=
  if a.1.1 = 0 then if unionOk p [(a.1.2, a.2)] then some (unionL p [(a.1.2, a.2)]) else none
  else if a.1.1 = 1 then some (lessL p [(a.1.2, a.2)])
  else if a.1.1 = 2 then if moveOk p (a.1.2, a.2) then some (moveL p (a.1.2, a.2)) else none
  else if a.1.1 = 3 then if a.1.2 = 0 ∧ a.2 = 0 then some (turnedP p) else none
  else if a.1.1 = 4 then if (0 ≤ a.1.2 ∧ a.1.2 ≤ 1) ∧ a.2 = 0 ∧ grownBallOk p 1 a.1.2 = true then some (grownBallR p 1 a.1.2) else none
  else if a.1.1 = 5 then if (0 ≤ a.1.2 ∧ a.1.2 ≤ 1) ∧ a.2 = 0 ∧ shrinkOk p (ballL 1 a.1.2) = true then some (shrinkR p (ballL 1 a.1.2)) else none
  else if a.1.1 = 6 then if a.2 = 0 ∧ sieveOk p a.1.2 = true then some (sieveR p a.1.2) else none
  else if a.1.1 = 7 then if (a.1.2 = 0 ∧ a.2 = 0) ∧ bothOk p = true then some (bothR p) else none
  else none
/-- the pictures of before with one more, of which the first ones are gone -/
def pastR (ps : List (List Sp)) (p : List Sp) : List (List Sp) := (ps ++ [p]).drop (ps.length + 1 - 8)
def isBack (a : Dd) : Bool := decide (a = ((8, 0), 0))
/-- the desk after a deed, if it is done -/
def doV (d : Dk) (a : Dd) : Option Dk :=
  if isBack a then (if d.2.length = 0 then none else some (d.2.getD (d.2.length - 1) [], d.2.take (d.2.length - 1)))
  else match madeV d.1 a with
    | some m => if m = d.1 then none else some (m, pastR d.2 d.1)
    | none => none
def doOk (d : Dk) (a : Dd) : Bool := (doV d a).isSome
def doR (d : Dk) (a : Dd) : Dk := (doV d a).getD d
theorem do_no {d : Dk} {a : Dd} (h : doV d a = none) : doOk d a = false ∧ doR d a = d := by unfold doOk doR; rw [h]; exact ⟨rfl, rfl⟩
theorem do_yes {d x : Dk} {a : Dd} (h : doV d a = some x) : doOk d a = true ∧ doR d a = x := by unfold doOk doR; rw [h]; exact ⟨rfl, rfl⟩
theorem do_not {d : Dk} {a : Dd} (h : doOk d a = false) : doR d a = d := by
  unfold doOk at h; unfold doR
  cases e : doV d a with
  | none => rfl
  | some x => rw [e] at h; cases h
theorem do_is {d : Dk} {a : Dd} (h : doOk d a = true) : doV d a = some (doR d a) := by
  unfold doOk at h; unfold doR
  cases e : doV d a with
  | none => rw [e] at h; cases h
  | some x => rfl
theorem do_out {d : Dk} {k x y : Int} (h : ¬ (0 ≤ k ∧ k ≤ 8)) : doV d ((k, x), y) = none := by
  have hb : isBack ((k, x), y) = false := decide_eq_false fun e => by cases e; omega
  have hm : madeV d.1 ((k, x), y) = none := by
    unfold madeV
    simp only
    rw [if_neg (by omega), if_neg (by omega), if_neg (by omega), if_neg (by omega), if_neg (by omega), if_neg (by omega), if_neg (by omega), if_neg (by omega)]
  unfold doV
  rw [hb, hm]; rfl
theorem do_none {d : Dk} {a : Dd} (h : a.1.1 ≠ 8) (hm : madeV d.1 a = none) : doV d a = none := by
  have hb : isBack a = false := decide_eq_false fun e => h (by rw [e])
  unfold doV
  rw [hb, hm]; rfl
theorem do_same {d : Dk} {a : Dd} {m : List Sp} (h : a.1.1 ≠ 8) (hm : madeV d.1 a = some m) (e : m = d.1) : doV d a = none := by
  have hb : isBack a = false := decide_eq_false fun e => h (by rw [e])
  unfold doV
  rw [hb, hm]
  simp [e]
theorem do_new {d : Dk} {a : Dd} {m : List Sp} (h : a.1.1 ≠ 8) (hm : madeV d.1 a = some m) (e : m ≠ d.1) : doV d a = some (m, pastR d.2 d.1) := by
  have hb : isBack a = false := decide_eq_false fun e => h (by rw [e])
  unfold doV
  rw [hb, hm]
  simp [e]
theorem do_b0 {d : Dk} (h : d.2.length = 0) : doV d ((8, 0), 0) = none := by
  unfold doV
  rw [show isBack ((8, 0), 0) = true from rfl, if_pos rfl, if_pos h]
theorem do_b1 {d : Dk} (h : d.2.length ≠ 0) : doV d ((8, 0), 0) = some (d.2.getD (d.2.length - 1) [], d.2.take (d.2.length - 1)) := by
  unfold doV
  rw [show isBack ((8, 0), 0) = true from rfl, if_pos rfl, if_neg h]
/-- with what is no desk -/
def deskDoOk (d : Dk) (a : Dd) : Bool := deskB d && doOk d a
def deskDoR (d : Dk) (a : Dd) : Dk := if deskB d then doR d a else ([], [])

theorem made_pic {p m : List Sp} {a : Dd} (hp : picB p = true) (h : madeV p a = some m) : picB m = true := by
  unfold madeV at h
  split at h
  · split at h
    · rename_i k; cases h
      have k2 := k
      unfold unionOk at k2
      rw [Bool.and_eq_true, decide_eq_true_eq] at k2
      have k3 := k2.1
      unfold bothB at k3
      rw [Bool.and_eq_true] at k3
      rw [(union_yes k2.1 k2.2).2]
      exact picB_puts (picB_pic k3.1) (picB_pic k3.2) k2.2
    · cases h
  split at h
  · cases h; exact pic_filter hp _
  split at h
  · split at h
    · rename_i k; cases h
      have k2 := k
      unfold moveOk at k2
      simp only [Bool.and_eq_true] at k2
      rw [(move_yes k2.1.1 k2.1.2 k2.2).2]
      exact k2.2
    · cases h
  split at h
  · split at h
    · cases h; rw [turnedP_yes hp]; exact decide_eq_true (pic_turned (picB_pic hp))
    · cases h
  split at h
  · split at h
    · rename_i k; cases h
      have k2 := k.2.2
      unfold grownBallOk at k2
      rw [Bool.and_eq_true] at k2
      rw [(grownBall_yes k2.1).2, (sum_is k2.2).eq]
      exact (sum_is k2.2).ps
    · cases h
  split at h
  · split at h
    · rename_i k; cases h
      rw [(shrink_is k.2.2).eq]
      exact (shrink_is k.2.2).ps
    · cases h
  split at h
  · split at h
    · rename_i k; cases h
      exact (sieve_within k.2).2
    · cases h
  split at h
  · split at h
    · rename_i k; cases h
      exact (both_is k.2).pics
    · cases h
  · cases h
theorem mem_pastR {ps : List (List Sp)} {p q : List Sp} (h : q ∈ pastR ps p) : q ∈ ps ∨ q = p := by
  have := List.mem_of_mem_drop h
  rcases List.mem_append.1 this with k | k
  · exact .inl k
  · exact .inr (by simpa using k)
theorem pastR_length (ps : List (List Sp)) (p : List Sp) : (pastR ps p).length = min (ps.length + 1) 8 := by unfold pastR; rw [List.length_drop, List.length_append, List.length_singleton]; omega
theorem pastR_small {ps : List (List Sp)} {p : List Sp} (h : ps.length < 8) : pastR ps p = ps ++ [p] := by
  unfold pastR
  rw [show ps.length + 1 - 8 = 0 by omega]; rfl
theorem pastR_full {ps : List (List Sp)} {p : List Sp} (h : ps.length = 8) : pastR ps p = (ps ++ [p]).drop 1 := by
  unfold pastR
  rw [show ps.length + 1 - 8 = 1 by omega]
theorem lastP_mem {ps : List (List Sp)} (h : ps.length ≠ 0) : ps.getD (ps.length - 1) [] ∈ ps := by
  rw [List.getD_eq_getElem?_getD, List.getElem?_eq_getElem (by omega)]
  exact List.getElem_mem _
theorem desk_doV {d x : Dk} {a : Dd} (hd : deskB d = true) (h : doV d a = some x) : deskB x = true := by
  have D := deskB_iff.1 hd
  unfold doV at h
  split at h
  · split at h
    · cases h
    · rename_i k
      cases h
      exact deskB_iff.2 ⟨D.past _ (lastP_mem k), by simp only [List.length_take]; have := D.few; omega, fun p hp => D.past p (List.mem_of_mem_take hp)⟩
  · split at h
    · rename_i m hm
      split at h
      · cases h
      · cases h
        exact deskB_iff.2 ⟨made_pic D.now hm, by simp only [pastR_length]; omega, fun p hp => by
          rcases mem_pastR hp with k | rfl
          · exact D.past p k
          · exact D.now⟩
    · cases h
theorem desk_doR {d : Dk} (a : Dd) (hd : deskB d = true) : deskB (doR d a) = true := by
  cases h : doV d a with
  | none => rw [(do_no h).2]; exact hd
  | some x => rw [(do_yes h).2]; exact desk_doV hd h
/-- what was done can be undone -/
theorem do_back {d : Dk} {a : Dd} (h : doOk d a = true) (hk : a.1.1 ≠ 8) (hl : d.2.length < 8) : doV (doR d a) ((8, 0), 0) = some d := by
  have hv := do_is h
  unfold doV at hv
  have hb : isBack a = false := decide_eq_false fun e => hk (by rw [e])
  rw [hb] at hv
  simp only [Bool.false_eq_true, if_false] at hv
  cases hm : madeV d.1 a with
  | none => rw [hm] at hv; cases hv
  | some m =>
    rw [hm] at hv
    simp only at hv
    split at hv
    · cases hv
    · injection hv with hv
      rw [← hv, pastR_small hl]
      unfold doV
      have e1 : isBack ((8, 0), 0) = true := rfl
      rw [e1, if_pos rfl]
      simp only [List.length_append, List.length_singleton]
      rw [if_neg (by omega)]
      have e2 : d.2.length + 1 - 1 = d.2.length := by omega
      rw [e2]
      have e3 : (d.2 ++ [d.1]).getD d.2.length [] = d.1 := by
        rw [List.getD_eq_getElem?_getD, List.getElem?_append_right (Nat.le_refl _), Nat.sub_self]; rfl
      have e4 : (d.2 ++ [d.1]).take d.2.length = d.2 := by rw [List.take_left']; rfl
      rw [e3, e4]
theorem do_made {d : Dk} {a : Dd} (h : doOk d a = true) (hk : a.1.1 ≠ 8) : madeV d.1 a = some (doR d a).1 := by
  have hv := do_is h
  unfold doV at hv
  have hb : isBack a = false := decide_eq_false fun e => hk (by rw [e])
  rw [hb] at hv
  simp only [Bool.false_eq_true, if_false] at hv
  cases hm : madeV d.1 a with
  | none => rw [hm] at hv; cases hv
  | some m =>
    rw [hm] at hv
    simp only at hv
    split at hv
    · cases hv
    · injection hv with hv
      rw [← hv]
theorem zero_ball {w : Int} (h : 0 ≤ w ∧ w ≤ 1) : ((0 : Int), (0 : Int)) ∈ ballL 1 w := by
  have hk : ballOk 1 w = true := by unfold ballOk wayOk; rw [Bool.and_eq_true]; exact ⟨rfl, decide_eq_true (by omega)⟩
  refine (mem_ball hk).2 ?_
  rcases (show w = 0 ∨ w = 1 by omega) with rfl | rfl <;> decide
theorem do_grows {d : Dk} {a : Dd} (hd : deskB d = true) (h : doOk d a = true) (hk : a.1.1 = 4) : withinB d.1 (doR d a).1 = true := by
  have hp := (deskB_iff.1 hd).now
  have hm := do_made h (by omega)
  have hq := made_pic hp hm
  unfold madeV at hm
  rw [hk] at hm
  simp (config := { decide := true }) only [if_false, if_true] at hm
  split at hm
  · rename_i k
    injection hm with hm
    have k2 := k.2.2
    unfold grownBallOk at k2
    rw [Bool.and_eq_true] at k2
    refine within7 hp hq fun x hx => ?_
    rw [← hm, (grownBall_yes k2.1).2, (sum_is k2.2).eq, mem_sumL]
    exact ⟨x, (0, 0), hx, zero_ball k.1, by unfold addS; apply sp_ext <;> simp⟩
  · cases hm
theorem do_shrinks {d : Dk} {a : Dd} (hd : deskB d = true) (h : doOk d a = true) (hk : a.1.1 = 5 ∨ a.1.1 = 6) : withinB (doR d a).1 d.1 = true := by
  have hp := (deskB_iff.1 hd).now
  have hm := do_made h (by omega)
  have hq := made_pic hp hm
  unfold madeV at hm
  rcases hk with hk | hk
  · rw [hk] at hm
    simp (config := { decide := true }) only [if_false, if_true] at hm
    split at hm
    · rename_i k
      injection hm with hm
      refine within7 hq hp fun x hx => ?_
      rw [← hm, (shrink_is k.2.2).eq] at hx
      have := (mem_shrinkL (shrink_is k.2.2).q0).1 hx _ (zero_ball k.1)
      have e : addS (0, 0) x = x := by unfold addS; apply sp_ext <;> simp
      rwa [e] at this
    · cases hm
  · rw [hk] at hm
    simp (config := { decide := true }) only [if_false, if_true] at hm
    split at hm
    · rename_i k
      injection hm with hm
      exact within7 hq hp fun x hx => by rw [← hm] at hx; exact (sieve_within k.2).1 x hx
    · cases hm

/-! ### deeds, one after the other -/
def runR (d : Dk) (l : List Dd) : Dk := l.foldl doR d
def runN : Dk → List Dd → Nat
  | _, [] => 0
  | d, a :: l => (if doOk d a then 1 else 0) + runN (doR d a) l
theorem runR_append (d : Dk) (l m : List Dd) : runR d (l ++ m) = runR (runR d l) m := List.foldl_append ..
theorem runN_append : ∀ (d : Dk) (l m : List Dd), runN d (l ++ m) = runN d l + runN (runR d l) m
  | d, [], m => by simp [runN, runR]
  | d, a :: l, m => by
    have e1 : runN d (a :: l ++ m) = (if doOk d a then 1 else 0) + runN (doR d a) (l ++ m) := rfl
    have e2 : runN d (a :: l) = (if doOk d a then 1 else 0) + runN (doR d a) l := rfl
    have e3 : runR d (a :: l) = runR (doR d a) l := rfl
    rw [e1, e2, e3, runN_append (doR d a) l m, Nat.add_assoc]
theorem desk_runR : ∀ {d : Dk} (l : List Dd), deskB d = true → deskB (runR d l) = true
  | _, [], h => h
  | d, a :: l, h => desk_runR (d := doR d a) l (desk_doR a h)
theorem runN_le : ∀ (d : Dk) (l : List Dd), runN d l ≤ l.length
  | _, [] => Nat.le_refl _
  | d, a :: l => by
    unfold runN
    have := runN_le (doR d a) l
    rw [List.length_cons]
    split <;> omega
theorem run_take {d : Dk} {l : List Dd} {k : Nat} {a : Dd} (h : l[k]? = some a) : runR d (l.take (k + 1)) = doR (runR d (l.take k)) a ∧ runN d (l.take (k + 1)) = runN d (l.take k) + (if doOk (runR d (l.take k)) a then 1 else 0) := by
  have hk := (List.getElem?_eq_some_iff.1 h).1
  have e : l.take (k + 1) = l.take k ++ [a] := by
    rw [List.take_add_one, h]; rfl
  rw [e, runR_append, runN_append]
  exact ⟨rfl, rfl⟩
def runB (d : Dk) (l : List Dd) : Bool := deskB d && decide (l.length ≤ 40)
def deskRunR (d : Dk) (l : List Dd) : Dk := if runB d l then runR d l else ([], [])
def deskRunN (d : Dk) (l : List Dd) : Int := if runB d l then (runN d l : Int) else 0
theorem run_no {d : Dk} {l : List Dd} (h : runB d l = false) : deskRunR d l = ([], []) ∧ deskRunN d l = 0 := by unfold deskRunR deskRunN; rw [h]; exact ⟨rfl, rfl⟩
theorem run_yes {d : Dk} {l : List Dd} (h : runB d l = true) : deskRunR d l = runR d l ∧ deskRunN d l = (runN d l : Int) := by unfold deskRunR deskRunN; rw [h]; exact ⟨rfl, rfl⟩
theorem run_parts {d : Dk} {l : List Dd} (h : runB d l = true) : deskB d = true ∧ l.length ≤ 40 := by
  unfold runB at h; rwa [Bool.and_eq_true, decide_eq_true_eq] at h
/-- in two parts it is the same -/
theorem run_halves {d : Dk} {l : List Dd} (h : runB d l = true) (k : Nat) : runB d (l.take k) = true ∧ runB (deskRunR d (l.take k)) (l.drop k) = true ∧ deskRunR (deskRunR d (l.take k)) (l.drop k) = deskRunR d l ∧ deskRunN d (l.take k) + deskRunN (deskRunR d (l.take k)) (l.drop k) = deskRunN d l := by
  obtain ⟨h1, h2⟩ := run_parts h
  have a1 : runB d (l.take k) = true := by
    unfold runB; rw [Bool.and_eq_true, decide_eq_true_eq, List.length_take]; exact ⟨h1, by omega⟩
  have e1 := run_yes a1
  have a2 : runB (deskRunR d (l.take k)) (l.drop k) = true := by
    unfold runB; rw [Bool.and_eq_true, decide_eq_true_eq, List.length_drop, e1.1]; exact ⟨desk_runR _ h1, by omega⟩
  have e2 := run_yes a2
  have e3 := run_yes h
  refine ⟨a1, a2, ?_, ?_⟩
  · rw [e2.1, e3.1, e1.1, ← runR_append, List.take_append_drop]
  · rw [e2.2, e3.2, e1.2, e1.1]
    have := runN_append d (l.take k) (l.drop k)
    rw [List.take_append_drop] at this
    omega
end Go.Proofs.Ytgdifenicjgfjaa
