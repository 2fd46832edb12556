/- Texts of one kind, merged: DeskP, DeskM, DeskL, DeskT. No conditions but those that stand in each theorem. -/
import Derived.Test.YtkiidmdgdjphjaaGreatMove
import Derived.Test.YtkiidmdgdjphjaaGreatPartsL
import Derived.Test.YtkiidmdgdjphjaaGreatBox
import Derived.Test.YtkiidmdgdjphjaaGreatHas
import Derived.Test.YtkiidmdgdjphjaaGreatMark
namespace Go.Proofs.YtkiidmdgdjphjaaGreat
/-! ### DeskP -/
/-- a desk: the picture, and those of before -/
abbrev Dk := List Sp × List (List Sp)
/-- a deed: its kind and both numbers -/
abbrev Dd := Sp × Int
def deskB (d : Dk) : Bool := picB d.1 && (decide (d.2.length ≤ 8) && d.2.all picB)
structure DeskIs (d : Dk) : Prop where
  now : picB d.1 = true
  few : d.2.length ≤ 8
  past : ∀ p ∈ d.2, picB p = true
theorem deskB_iff {d : Dk} : deskB d = true ↔ DeskIs d := by
  unfold deskB
  rw [Bool.and_eq_true, Bool.and_eq_true, decide_eq_true_eq, List.all_eq_true]
  exact ⟨fun h => ⟨h.1, h.2.1, h.2.2⟩, fun h => ⟨h.now, h.few, h.past⟩⟩
theorem desk_no1 {d : Dk} (h : picB d.1 = false) : deskB d = false := by unfold deskB; rw [h]; rfl
theorem desk_no2 {d : Dk} (h : ¬ d.2.length ≤ 8) : deskB d = false := by unfold deskB; rw [decide_eq_false h, Bool.false_and, Bool.and_false]
theorem desk_no3 {d : Dk} {p : List Sp} (h : p ∈ d.2) (k : picB p = false) : deskB d = false := by
  rcases e : deskB d with _ | _
  · rfl
  · rw [(deskB_iff.1 e).past p h] at k; cases k

/-- what a deed that is none of going back makes of a picture, if it is told -/
def madeV (p : List Sp) (a : Dd) : Option (List Sp) :=
  if a.1.1 = 0 then if unionOk p [(a.1.2, a.2)] then some (unionL p [(a.1.2, a.2)]) else none
  else if a.1.1 = 1 then some (lessL p [(a.1.2, a.2)])
  else if a.1.1 = 2 then if moveOk p (a.1.2, a.2) then some (moveL p (a.1.2, a.2)) else none
  else if a.1.1 = 3 then if a.1.2 = 0 ∧ a.2 = 0 then some (turnedP p) else none
  else if a.1.1 = 4 then if (0 ≤ a.1.2 ∧ a.1.2 ≤ 1) ∧ a.2 = 0 ∧ grownBallOk p 1 a.1.2 = true then some (grownBallR p 1 a.1.2) else none
  else if a.1.1 = 5 then if (0 ≤ a.1.2 ∧ a.1.2 ≤ 1) ∧ a.2 = 0 ∧ shrinkOk p (ballL 1 a.1.2) = true then some (shrinkR p (ballL 1 a.1.2)) else none
  else if a.1.1 = 6 then if a.2 = 0 ∧ sieveOk p a.1.2 = true then some (sieveR p a.1.2) else none
  else if a.1.1 = 7 then if (a.1.2 = 0 ∧ a.2 = 0) ∧ bothOk p = true then some (bothR p) else none
  else none
/-- the pictures of before with one more, of which the first ones are gone -/
def pastR (ps : List (List Sp)) (p : List Sp) : List (List Sp) := (ps ++ [p]).drop (ps.length + 1 - 8)
def isBack (a : Dd) : Bool := decide (a = ((8, 0), 0))
/-- the desk after a deed, if it is done -/
def doV (d : Dk) (a : Dd) : Option Dk :=
  if isBack a then (if d.2.length = 0 then none else some (d.2.getD (d.2.length - 1) [], d.2.take (d.2.length - 1)))
  else match madeV d.1 a with
    | some m => if m = d.1 then none else some (m, pastR d.2 d.1)
    | none => none
def doOk (d : Dk) (a : Dd) : Bool := (doV d a).isSome
def doR (d : Dk) (a : Dd) : Dk := (doV d a).getD d
theorem do_no {d : Dk} {a : Dd} (h : doV d a = none) : doOk d a = false ∧ doR d a = d := by unfold doOk doR; rw [h]; exact ⟨rfl, rfl⟩
theorem do_yes {d x : Dk} {a : Dd} (h : doV d a = some x) : doOk d a = true ∧ doR d a = x := by unfold doOk doR; rw [h]; exact ⟨rfl, rfl⟩
theorem do_not {d : Dk} {a : Dd} (h : doOk d a = false) : doR d a = d := by
  unfold doOk at h; unfold doR
  cases e : doV d a with
  | none => rfl
  | some x => rw [e] at h; cases h
theorem do_is {d : Dk} {a : Dd} (h : doOk d a = true) : doV d a = some (doR d a) := by
  unfold doOk at h; unfold doR
  cases e : doV d a with
  | none => rw [e] at h; cases h
  | some x => rfl
theorem do_out {d : Dk} {k x y : Int} (h : ¬ (0 ≤ k ∧ k ≤ 8)) : doV d ((k, x), y) = none := by
  have hb : isBack ((k, x), y) = false := decide_eq_false fun e => by cases e; omega
  have hm : madeV d.1 ((k, x), y) = none := by
    unfold madeV
    simp only
    rw [if_neg (by omega), if_neg (by omega), if_neg (by omega), if_neg (by omega), if_neg (by omega), if_neg (by omega), if_neg (by omega), if_neg (by omega)]
  unfold doV
  rw [hb, hm]; rfl
theorem do_none {d : Dk} {a : Dd} (h : a.1.1 ≠ 8) (hm : madeV d.1 a = none) : doV d a = none := by
  have hb : isBack a = false := decide_eq_false fun e => h (by rw [e])
  unfold doV
  rw [hb, hm]; rfl
theorem do_same {d : Dk} {a : Dd} {m : List Sp} (h : a.1.1 ≠ 8) (hm : madeV d.1 a = some m) (e : m = d.1) : doV d a = none := by
  have hb : isBack a = false := decide_eq_false fun e => h (by rw [e])
  unfold doV
  rw [hb, hm]
  simp [e]
theorem do_new {d : Dk} {a : Dd} {m : List Sp} (h : a.1.1 ≠ 8) (hm : madeV d.1 a = some m) (e : m ≠ d.1) : doV d a = some (m, pastR d.2 d.1) := by
  have hb : isBack a = false := decide_eq_false fun e => h (by rw [e])
  unfold doV
  rw [hb, hm]
  simp [e]
theorem do_b0 {d : Dk} (h : d.2.length = 0) : doV d ((8, 0), 0) = none := by
  unfold doV
  rw [show isBack ((8, 0), 0) = true from rfl, if_pos rfl, if_pos h]
theorem do_b1 {d : Dk} (h : d.2.length ≠ 0) : doV d ((8, 0), 0) = some (d.2.getD (d.2.length - 1) [], d.2.take (d.2.length - 1)) := by
  unfold doV
  rw [show isBack ((8, 0), 0) = true from rfl, if_pos rfl, if_neg h]
/-- with what is no desk -/
def deskDoOk (d : Dk) (a : Dd) : Bool := deskB d && doOk d a
def deskDoR (d : Dk) (a : Dd) : Dk := if deskB d then doR d a else ([], [])

theorem made_pic {p m : List Sp} {a : Dd} (hp : picB p = true) (h : madeV p a = some m) : picB m = true := by
  unfold madeV at h
  split at h
  · split at h
    · rename_i k; cases h
      have k2 := k
      unfold unionOk at k2
      rw [Bool.and_eq_true, decide_eq_true_eq] at k2
      have k3 := k2.1
      unfold bothB at k3
      rw [Bool.and_eq_true] at k3
      rw [(union_yes k2.1 k2.2).2]
      exact picB_puts (picB_pic k3.1) (picB_pic k3.2) k2.2
    · cases h
  split at h
  · cases h; exact pic_filter hp _
  split at h
  · split at h
    · rename_i k; cases h
      have k2 := k
      unfold moveOk at k2
      simp only [Bool.and_eq_true] at k2
      rw [(move_yes k2.1.1 k2.1.2 k2.2).2]
      exact k2.2
    · cases h
  split at h
  · split at h
    · cases h; rw [turnedP_yes hp]; exact decide_eq_true (pic_turned (picB_pic hp))
    · cases h
  split at h
  · split at h
    · rename_i k; cases h
      have k2 := k.2.2
      unfold grownBallOk at k2
      rw [Bool.and_eq_true] at k2
      rw [(grownBall_yes k2.1).2, (sum_is k2.2).eq]
      exact (sum_is k2.2).ps
    · cases h
  split at h
  · split at h
    · rename_i k; cases h
      rw [(shrink_is k.2.2).eq]
      exact (shrink_is k.2.2).ps
    · cases h
  split at h
  · split at h
    · rename_i k; cases h
      exact (sieve_within k.2).2
    · cases h
  split at h
  · split at h
    · rename_i k; cases h
      exact (both_is k.2).pics
    · cases h
  · cases h
theorem mem_pastR {ps : List (List Sp)} {p q : List Sp} (h : q ∈ pastR ps p) : q ∈ ps ∨ q = p := by
  have := List.mem_of_mem_drop h
  rcases List.mem_append.1 this with k | k
  · exact .inl k
  · exact .inr (by simpa using k)
theorem pastR_length (ps : List (List Sp)) (p : List Sp) : (pastR ps p).length = min (ps.length + 1) 8 := by unfold pastR; rw [List.length_drop, List.length_append, List.length_singleton]; omega
theorem pastR_small {ps : List (List Sp)} {p : List Sp} (h : ps.length < 8) : pastR ps p = ps ++ [p] := by
  unfold pastR
  rw [show ps.length + 1 - 8 = 0 by omega]; rfl
theorem pastR_full {ps : List (List Sp)} {p : List Sp} (h : ps.length = 8) : pastR ps p = (ps ++ [p]).drop 1 := by
  unfold pastR
  rw [show ps.length + 1 - 8 = 1 by omega]
theorem lastP_mem {ps : List (List Sp)} (h : ps.length ≠ 0) : ps.getD (ps.length - 1) [] ∈ ps := by
  rw [List.getD_eq_getElem?_getD, List.getElem?_eq_getElem (by omega)]
  exact List.getElem_mem _
theorem desk_doV {d x : Dk} {a : Dd} (hd : deskB d = true) (h : doV d a = some x) : deskB x = true := by
  have D := deskB_iff.1 hd
  unfold doV at h
  split at h
  · split at h
    · cases h
    · rename_i k
      cases h
      exact deskB_iff.2 ⟨D.past _ (lastP_mem k), by simp only [List.length_take]; have := D.few; omega, fun p hp => D.past p (List.mem_of_mem_take hp)⟩
  · split at h
    · rename_i m hm
      split at h
      · cases h
      · cases h
        exact deskB_iff.2 ⟨made_pic D.now hm, by simp only [pastR_length]; omega, fun p hp => by
          rcases mem_pastR hp with k | rfl
          · exact D.past p k
          · exact D.now⟩
    · cases h
theorem desk_doR {d : Dk} (a : Dd) (hd : deskB d = true) : deskB (doR d a) = true := by
  cases h : doV d a with
  | none => rw [(do_no h).2]; exact hd
  | some x => rw [(do_yes h).2]; exact desk_doV hd h
/-- what was done can be undone -/
theorem do_back {d : Dk} {a : Dd} (h : doOk d a = true) (hk : a.1.1 ≠ 8) (hl : d.2.length < 8) : doV (doR d a) ((8, 0), 0) = some d := by
  have hv := do_is h
  unfold doV at hv
  have hb : isBack a = false := decide_eq_false fun e => hk (by rw [e])
  rw [hb] at hv
  simp only [Bool.false_eq_true, if_false] at hv
  cases hm : madeV d.1 a with
  | none => rw [hm] at hv; cases hv
  | some m =>
    rw [hm] at hv
    simp only at hv
    split at hv
    · cases hv
    · injection hv with hv
      rw [← hv, pastR_small hl]
      unfold doV
      have e1 : isBack ((8, 0), 0) = true := rfl
      rw [e1, if_pos rfl]
      simp only [List.length_append, List.length_singleton]
      rw [if_neg (by omega)]
      have e2 : d.2.length + 1 - 1 = d.2.length := by omega
      rw [e2]
      have e3 : (d.2 ++ [d.1]).getD d.2.length [] = d.1 := by
        rw [List.getD_eq_getElem?_getD, List.getElem?_append_right (Nat.le_refl _), Nat.sub_self]; rfl
      have e4 : (d.2 ++ [d.1]).take d.2.length = d.2 := by rw [List.take_left']; rfl
      rw [e3, e4]
theorem do_made {d : Dk} {a : Dd} (h : doOk d a = true) (hk : a.1.1 ≠ 8) : madeV d.1 a = some (doR d a).1 := by
  have hv := do_is h
  unfold doV at hv
  have hb : isBack a = false := decide_eq_false fun e => hk (by rw [e])
  rw [hb] at hv
  simp only [Bool.false_eq_true, if_false] at hv
  cases hm : madeV d.1 a with
  | none => rw [hm] at hv; cases hv
  | some m =>
    rw [hm] at hv
    simp only at hv
    split at hv
    · cases hv
    · injection hv with hv
      rw [← hv]
theorem zero_ball {w : Int} (h : 0 ≤ w ∧ w ≤ 1) : ((0 : Int), (0 : Int)) ∈ ballL 1 w := by
  have hk : ballOk 1 w = true := by unfold ballOk wayOk; rw [Bool.and_eq_true]; exact ⟨rfl, decide_eq_true (by omega)⟩
  refine (mem_ball hk).2 ?_
  rcases (show w = 0 ∨ w = 1 by omega) with rfl | rfl <;> decide
theorem do_grows {d : Dk} {a : Dd} (hd : deskB d = true) (h : doOk d a = true) (hk : a.1.1 = 4) : withinB d.1 (doR d a).1 = true := by
  have hp := (deskB_iff.1 hd).now
  have hm := do_made h (by omega)
  have hq := made_pic hp hm
  unfold madeV at hm
  rw [hk] at hm
  simp (config := { decide := true }) only [if_false, if_true] at hm
  split at hm
  · rename_i k
    injection hm with hm
    have k2 := k.2.2
    unfold grownBallOk at k2
    rw [Bool.and_eq_true] at k2
    refine within7 hp hq fun x hx => ?_
    rw [← hm, (grownBall_yes k2.1).2, (sum_is k2.2).eq, mem_sumL]
    exact ⟨x, (0, 0), hx, zero_ball k.1, by unfold addS; apply sp_ext <;> simp⟩
  · cases hm
theorem do_shrinks {d : Dk} {a : Dd} (hd : deskB d = true) (h : doOk d a = true) (hk : a.1.1 = 5 ∨ a.1.1 = 6) : withinB (doR d a).1 d.1 = true := by
  have hp := (deskB_iff.1 hd).now
  have hm := do_made h (by omega)
  have hq := made_pic hp hm
  unfold madeV at hm
  rcases hk with hk | hk
  · rw [hk] at hm
    simp (config := { decide := true }) only [if_false, if_true] at hm
    split at hm
    · rename_i k
      injection hm with hm
      refine within7 hq hp fun x hx => ?_
      rw [← hm, (shrink_is k.2.2).eq] at hx
      have := (mem_shrinkL (shrink_is k.2.2).q0).1 hx _ (zero_ball k.1)
      have e : addS (0, 0) x = x := by unfold addS; apply sp_ext <;> simp
      rwa [e] at this
    · cases hm
  · rw [hk] at hm
    simp (config := { decide := true }) only [if_false, if_true] at hm
    split at hm
    · rename_i k
      injection hm with hm
      exact within7 hq hp fun x hx => by rw [← hm] at hx; exact (sieve_within k.2).1 x hx
    · cases hm

/-! ### deeds, one after the other -/
def runR (d : Dk) (l : List Dd) : Dk := l.foldl doR d
def runN : Dk → List Dd → Nat
  | _, [] => 0
  | d, a :: l => (if doOk d a then 1 else 0) + runN (doR d a) l
theorem runR_append (d : Dk) (l m : List Dd) : runR d (l ++ m) = runR (runR d l) m := List.foldl_append ..
theorem runN_append : ∀ (d : Dk) (l m : List Dd), runN d (l ++ m) = runN d l + runN (runR d l) m
  | d, [], m => by simp [runN, runR]
  | d, a :: l, m => by
    have e1 : runN d (a :: l ++ m) = (if doOk d a then 1 else 0) + runN (doR d a) (l ++ m) := rfl
    have e2 : runN d (a :: l) = (if doOk d a then 1 else 0) + runN (doR d a) l := rfl
    have e3 : runR d (a :: l) = runR (doR d a) l := rfl
    rw [e1, e2, e3, runN_append (doR d a) l m, Nat.add_assoc]
theorem desk_runR : ∀ {d : Dk} (l : List Dd), deskB d = true → deskB (runR d l) = true
  | _, [], h => h
  | d, a :: l, h => desk_runR (d := doR d a) l (desk_doR a h)
theorem runN_le : ∀ (d : Dk) (l : List Dd), runN d l ≤ l.length
  | _, [] => Nat.le_refl _
  | d, a :: l => by
    unfold runN
    have := runN_le (doR d a) l
    rw [List.length_cons]
    split <;> omega
theorem run_take {d : Dk} {l : List Dd} {k : Nat} {a : Dd} (h : l[k]? = some a) : runR d (l.take (k + 1)) = doR (runR d (l.take k)) a ∧ runN d (l.take (k + 1)) = runN d (l.take k) + (if doOk (runR d (l.take k)) a then 1 else 0) := by
  have hk := (List.getElem?_eq_some_iff.1 h).1
  have e : l.take (k + 1) = l.take k ++ [a] := by
    rw [List.take_add_one, h]; rfl
  rw [e, runR_append, runN_append]
  exact ⟨rfl, rfl⟩
def runB (d : Dk) (l : List Dd) : Bool := deskB d && decide (l.length ≤ 40)
def deskRunR (d : Dk) (l : List Dd) : Dk := if runB d l then runR d l else ([], [])
def deskRunN (d : Dk) (l : List Dd) : Int := if runB d l then (runN d l : Int) else 0
theorem run_no {d : Dk} {l : List Dd} (h : runB d l = false) : deskRunR d l = ([], []) ∧ deskRunN d l = 0 := by unfold deskRunR deskRunN; rw [h]; exact ⟨rfl, rfl⟩
theorem run_yes {d : Dk} {l : List Dd} (h : runB d l = true) : deskRunR d l = runR d l ∧ deskRunN d l = (runN d l : Int) := by unfold deskRunR deskRunN; rw [h]; exact ⟨rfl, rfl⟩
theorem run_parts {d : Dk} {l : List Dd} (h : runB d l = true) : deskB d = true ∧ l.length ≤ 40 := by
  unfold runB at h; rwa [Bool.and_eq_true, decide_eq_true_eq] at h
/-- in two parts it is the same -/
theorem run_halves {d : Dk} {l : List Dd} (h : runB d l = true) (k : Nat) : runB d (l.take k) = true ∧ runB (deskRunR d (l.take k)) (l.drop k) = true ∧ deskRunR (deskRunR d (l.take k)) (l.drop k) = deskRunR d l ∧ deskRunN d (l.take k) + deskRunN (deskRunR d (l.take k)) (l.drop k) = deskRunN d l := by
  obtain ⟨h1, h2⟩ := run_parts h
  have a1 : runB d (l.take k) = true := by
    unfold runB; rw [Bool.and_eq_true, decide_eq_true_eq, List.length_take]; exact ⟨h1, by omega⟩
  have e1 := run_yes a1
  have a2 : runB (deskRunR d (l.take k)) (l.drop k) = true := by
    unfold runB; rw [Bool.and_eq_true, decide_eq_true_eq, List.length_drop, e1.1]; exact ⟨desk_runR _ h1, by omega⟩
  have e2 := run_yes a2
  have e3 := run_yes h
  refine ⟨a1, a2, ?_, ?_⟩
  · rw [e2.1, e3.1, e1.1, ← runR_append, List.take_append_drop]
  · rw [e2.2, e3.2, e1.2, e1.1]
    have := runN_append d (l.take k) (l.drop k)
    rw [List.take_append_drop] at this
    omega
/-! ### DeskM -/
section
open Go.RowKit Go.Sort

/-- what changes lies in blocks from lo on and ahead of hi -/
structure GrownIn (lo hi : Nat) (w w' : World) : Prop where
  os : w'.os = w.os
  tape : w'.tape = w.tape
  output : w'.output = w.output
  size : w.heap.size ≤ w'.heap.size
  block : ∀ k, k < w.heap.size → (k < lo ∨ hi ≤ k) → w'.heap[k]? = w.heap[k]?
theorem GrownIn.refl (lo hi : Nat) (w : World) : GrownIn lo hi w w := ⟨rfl, rfl, rfl, Nat.le_refl _, fun _ _ _ => rfl⟩
theorem GrownIn.trans {lo hi : Nat} {a b c : World} (h : GrownIn lo hi a b) (k : GrownIn lo hi b c) : GrownIn lo hi a c :=
  ⟨k.os.trans h.os, k.tape.trans h.tape, k.output.trans h.output, Nat.le_trans h.size k.size, fun i hi1 ho => (k.block i (Nat.lt_of_lt_of_le hi1 h.size) ho).trans (h.block i hi1 ho)⟩
theorem GrownIn.of_grown {lo hi : Nat} {w w' : World} {row : Option Nat} (h : w.grownBy w' row) (hr : ∀ g, row = some g → lo ≤ g ∧ g < hi) : GrownIn lo hi w w' :=
  ⟨h.os, h.tape, h.output, h.size, fun k hk ho => h.block k hk fun e => by have := hr k e.symm; omega⟩
theorem GrownIn.of_below {lo hi : Nat} {w w' : World} (h : Below w.heap.size w w') : GrownIn lo hi w w' := ⟨h.os, h.tape, h.output, h.size, fun k hk _ => h.block k hk⟩
theorem GrownIn.below {lo hi B : Nat} {w w' : World} (h : GrownIn lo hi w w') (hB : B ≤ lo) (hs : B ≤ w.heap.size) : Below B w w' := ⟨h.os, h.tape, h.output, h.size, fun k hk => h.block k (by omega) (.inl (by omega))⟩

theorem Owns.keptBy {w w' : World} {base : Nat} {v : Value} {ps : List Sp} (h : Owns w base v ps) (hk : ∀ g, v.ownBlock = some g → w'.heap[g]? = w.heap[g]?) : Owns w' base v ps := by
  refine ⟨h.1, ?_⟩
  rcases h.2 with h0 | ⟨g, cap, cur, rfl, h1, hg, h2⟩
  · exact .inl h0
  · exact .inr ⟨g, cap, cur, rfl, h1, (hk g rfl).trans hg, h2⟩
theorem VOwns.keptBy {T : TypeId} {w w' : World} {base : Nat} {v : Value} {l : List Value} (h : VOwns T w base v l) (hk : ∀ g, v.ownBlock = some g → w'.heap[g]? = w.heap[g]?) : VOwns T w' base v l := by
  refine ⟨h.1, ?_⟩
  rcases h.2 with h0 | ⟨g, cap, cur, rfl, h1, hg, h2⟩
  · exact .inl h0
  · exact .inr ⟨g, cap, cur, rfl, h1, (hk g rfl).trans hg, h2⟩

theorem Reads.nilAny {w w' : World} {B B' : Nat} {v : Value} (h : Reads w B v []) (hB : B ≤ B') : Reads w' B' v [] := by
  obtain ⟨A, c, h1, h2, h3, h4, h5⟩ := h.is
  refine ⟨A, c, h1, h2, h3, h4, fun hc => ?_⟩
  obtain ⟨b, off, h6, h7, _⟩ := h5 hc
  exact ⟨b, off, h6, by omega, fun k x y hk => by cases hk⟩
/-- a picture that the call itself made, in a block from lo on and ahead of hi; or an empty one -/
def OZ (w : World) (lo hi : Nat) (v : Value) (ps : List Sp) : Prop := (ps = [] ∧ Reads w hi v []) ∨ (ps ≠ [] ∧ Owns w lo v ps ∧ ∀ g, v.ownBlock = some g → g < hi)
/-- the block in which its spots lie, if it has any -/
def blk (v : Value) (ps : List Sp) : Option Nat := if ps = [] then none else v.ownBlock
theorem blk_nil (v : Value) : blk v [] = none := if_pos rfl
theorem blk_yes {v : Value} {ps : List Sp} (h : ps ≠ []) : blk v ps = v.ownBlock := if_neg h
theorem blk_congr {v : Value} {ps qs : List Sp} (h : ps.length = qs.length) : blk v ps = blk v qs := by
  by_cases e : ps = []
  · subst e
    rw [List.eq_nil_of_length_eq_zero (l := qs) (by simpa using h.symm)]
  · have e' : qs ≠ [] := fun k => e (List.eq_nil_of_length_eq_zero (by rw [h, k]; rfl))
    rw [blk_yes e, blk_yes e']
theorem OZ.of {w : World} {lo hi : Nat} {v : Value} {ps : List Sp} (h : Owns w lo v ps) (hh : w.heap.size ≤ hi) : OZ w lo hi v ps := by
  by_cases e : ps = []
  · subst e
    exact .inl ⟨rfl, h.reads.more hh⟩
  · exact .inr ⟨e, h, fun g hg => Nat.lt_of_lt_of_le (h.lt g hg).2 hh⟩
theorem OZ.empty (w : World) (lo hi : Nat) (A : Option Addr) : OZ w lo hi (.slice A 0 0) [] := .inl ⟨rfl, A, 0, rfl, Nat.le_refl _, by simp [maxLen], fun _ => rfl, fun h => by omega⟩
theorem OZ.rng {w : World} {lo hi : Nat} {v : Value} {ps : List Sp} (h : OZ w lo hi v ps) : ∀ g, blk v ps = some g → (lo ≤ g ∧ g < hi) ∧ g < w.heap.size := by
  intro g hg
  rcases h with ⟨rfl, _⟩ | ⟨e, h, k⟩
  · rw [blk_nil] at hg; cases hg
  · rw [blk_yes e] at hg; exact ⟨⟨(h.lt g hg).1, k g hg⟩, (h.lt g hg).2⟩
theorem OZ.keptBy {w w' : World} {lo hi : Nat} {v : Value} {ps : List Sp} (h : OZ w lo hi v ps) (hk : ∀ g, lo ≤ g → g < hi → g < w.heap.size → w'.heap[g]? = w.heap[g]?) : OZ w' lo hi v ps := by
  rcases h with ⟨h, k⟩ | ⟨e, h, k⟩
  · exact .inl ⟨h, k.nilAny (Nat.le_refl _)⟩
  · exact .inr ⟨e, h.keptBy fun g hg => hk g (h.lt g hg).1 (k g hg) (h.lt g hg).2, k⟩
theorem OZ.wider {w : World} {lo lo' hi hi' : Nat} {v : Value} {ps : List Sp} (h : OZ w lo hi v ps) (hl : lo' ≤ lo) (hh : hi ≤ hi') : OZ w lo' hi' v ps := by
  rcases h with ⟨h, k⟩ | ⟨e, h, k⟩
  · exact .inl ⟨h, k.nilAny hh⟩
  · exact .inr ⟨e, h.base hl, fun g hg => Nat.lt_of_lt_of_le (k g hg) hh⟩
/-- what is written into another block leaves it as it was -/
theorem OZ.other {w w' : World} {lo hi : Nat} {v : Value} {ps : List Sp} {row : Option Nat} (h : OZ w lo hi v ps) (hg : w.grownBy w' row) (hne : blk v ps = none ∨ blk v ps ≠ row) : OZ w' lo hi v ps := by
  rcases h with ⟨h, k⟩ | ⟨e, h, k⟩
  · exact .inl ⟨h, k.nilAny (Nat.le_refl _)⟩
  · refine .inr ⟨e, h.grown hg ?_, k⟩
    rw [blk_yes e] at hne; exact hne
theorem OZ.reads {w : World} {lo hi : Nat} {v : Value} {ps : List Sp} (h : OZ w lo hi v ps) : Reads w hi v ps := by
  rcases h with ⟨rfl, h⟩ | ⟨e, h, k⟩
  · exact h
  · rcases h.parts with ⟨rfl, rfl⟩ | ⟨b, off, c, rfl, h1, h2, h3, h4⟩
    · exact absurd rfl e
    · exact ⟨_, c, rfl, h1, h2, fun e => (by cases e), fun _ => ⟨b, off, rfl, k b rfl, h4⟩⟩
theorem OZ.slice {w : World} {lo hi : Nat} {v : Value} {ps : List Sp} (h : OZ w lo hi v ps) : ∃ A c, v = .slice A ps.length c ∧ ps.length ≤ c ∧ c ≤ maxLen := h.reads.slice

/-- pictures, each with memory of its own -/
structure InZ (w : World) (lo hi : Nat) (vs : List Value) (ls : List (List Sp)) : Prop where
  len : vs.length = ls.length
  own : ∀ (k : Nat) p, ls[k]? = some p → ∃ u, vs[k]? = some u ∧ OZ w lo hi u p
  ne : ∀ (i j : Nat) u u' p p', i < j → vs[i]? = some u → vs[j]? = some u' → ls[i]? = some p → ls[j]? = some p' → blk u p = none ∨ blk u p ≠ blk u' p'
theorem InZ.keptBy {w w' : World} {lo hi : Nat} {vs : List Value} {ls : List (List Sp)} (h : InZ w lo hi vs ls) (hk : ∀ g, lo ≤ g → g < hi → g < w.heap.size → w'.heap[g]? = w.heap[g]?) : InZ w' lo hi vs ls :=
  ⟨h.len, fun k p hp => by obtain ⟨u, h1, h2⟩ := h.own k p hp; exact ⟨u, h1, h2.keptBy hk⟩, h.ne⟩
theorem InZ.wider {w : World} {lo lo' hi hi' : Nat} {vs : List Value} {ls : List (List Sp)} (h : InZ w lo hi vs ls) (hl : lo' ≤ lo) (hh : hi ≤ hi') : InZ w lo' hi' vs ls :=
  ⟨h.len, fun k p hp => by obtain ⟨u, h1, h2⟩ := h.own k p hp; exact ⟨u, h1, h2.wider hl hh⟩, h.ne⟩
theorem InZ.nil (w : World) (lo hi : Nat) : InZ w lo hi [] [] := ⟨rfl, fun k p h => (by cases h), fun i j u u' p p' _ h => (by cases h)⟩
/-- one more behind the others, in blocks that are none of theirs -/
theorem InZ.snoc {w : World} {lo mid hi : Nat} {vs : List Value} {ls : List (List Sp)} {u : Value} {p : List Sp} (h : InZ w lo mid vs ls) (ho : OZ w mid hi u p) (hl : lo ≤ mid) (hh : mid ≤ hi) : InZ w lo hi (vs ++ [u]) (ls ++ [p]) := by
  refine ⟨by rw [List.length_append, List.length_append, h.len]; rfl, fun k q hk => ?_, fun i j a b q q' hij ha hb hq hq' => ?_⟩
  · by_cases hkl : k < ls.length
    · rw [List.getElem?_append_left hkl] at hk
      obtain ⟨a, h1, h2⟩ := h.own k q hk
      exact ⟨a, by rw [List.getElem?_append_left (by rw [h.len]; exact hkl)]; exact h1, h2.wider (Nat.le_refl _) hh⟩
    · rw [List.getElem?_append_right (by omega)] at hk
      have e : k - ls.length = 0 := by
        have := (List.getElem?_eq_some_iff.1 hk).1
        simp only [List.length_singleton] at this; omega
      rw [e] at hk
      cases hk
      exact ⟨u, by rw [List.getElem?_append_right (by rw [h.len]; omega), h.len, e]; rfl, ho.wider hl (Nat.le_refl _)⟩
  · have hj := (List.getElem?_eq_some_iff.1 hb).1
    rw [List.length_append, List.length_singleton] at hj
    have hlen := h.len
    rw [List.getElem?_append_left (by omega)] at ha hq
    by_cases hl' : j < vs.length
    · rw [List.getElem?_append_left hl'] at hb
      rw [List.getElem?_append_left (by omega)] at hq'
      exact h.ne i j a b q q' hij ha hb hq hq'
    · have e : j = vs.length := by omega
      subst e
      rw [List.getElem?_append_right (Nat.le_refl _), Nat.sub_self] at hb
      rw [hlen, List.getElem?_append_right (Nat.le_refl _), Nat.sub_self] at hq'
      cases hb
      cases hq'
      cases hx : blk a q with
      | none => exact .inl rfl
      | some g =>
        refine .inr fun e => ?_
        obtain ⟨a', h1, h2⟩ := h.own i q hq
        rw [ha] at h1; cases h1
        have l1 := (h2.rng g hx).1
        have l2 := (ho.rng g e.symm).1
        omega
/-- one more ahead of the others -/
theorem InZ.cons {w : World} {lo mid hi : Nat} {vs : List Value} {ls : List (List Sp)} {u : Value} {p : List Sp} (h : InZ w lo mid vs ls) (ho : OZ w mid hi u p) (hl : lo ≤ mid) (hh : mid ≤ hi) : InZ w lo hi (u :: vs) (p :: ls) := by
  refine ⟨by rw [List.length_cons, List.length_cons, h.len], fun k q hk => ?_, fun i j a b q q' hij ha hb hq hq' => ?_⟩
  · cases k with
    | zero => cases hk; exact ⟨u, rfl, ho.wider hl (Nat.le_refl _)⟩
    | succ k =>
      rw [List.getElem?_cons_succ] at hk
      obtain ⟨a, h1, h2⟩ := h.own k q hk
      exact ⟨a, by rw [List.getElem?_cons_succ]; exact h1, h2.wider (Nat.le_refl _) hh⟩
  · cases j with
    | zero => omega
    | succ j =>
      rw [List.getElem?_cons_succ] at hb hq'
      cases i with
      | succ i =>
        rw [List.getElem?_cons_succ] at ha hq
        exact h.ne i j a b q q' (by omega) ha hb hq hq'
      | zero =>
        cases ha
        cases hq
        cases hx : blk u p with
        | none => exact .inl rfl
        | some g =>
          refine .inr fun e => ?_
          obtain ⟨b', h1, h2⟩ := h.own j q' hq'
          rw [hb] at h1; cases h1
          have l1 := (ho.rng g hx).1
          have l2 := (h2.rng g e.symm).1
          omega
/-- the first one in blocks ahead of the others' -/
theorem InZ.first {w : World} {lo mid hi : Nat} {vs : List Value} {ls : List (List Sp)} {u : Value} {p : List Sp} (h : InZ w mid hi vs ls) (ho : OZ w lo mid u p) (hl : lo ≤ mid) (hh : mid ≤ hi) : InZ w lo hi (u :: vs) (p :: ls) := by
  refine ⟨by rw [List.length_cons, List.length_cons, h.len], fun k q hk => ?_, fun i j a b q q' hij ha hb hq hq' => ?_⟩
  · cases k with
    | zero => cases hk; exact ⟨u, rfl, ho.wider (Nat.le_refl _) hh⟩
    | succ k =>
      rw [List.getElem?_cons_succ] at hk
      obtain ⟨a, h1, h2⟩ := h.own k q hk
      exact ⟨a, by rw [List.getElem?_cons_succ]; exact h1, h2.wider hl (Nat.le_refl _)⟩
  · cases j with
    | zero => omega
    | succ j =>
      rw [List.getElem?_cons_succ] at hb hq'
      cases i with
      | succ i =>
        rw [List.getElem?_cons_succ] at ha hq
        exact h.ne i j a b q q' (by omega) ha hb hq hq'
      | zero =>
        cases ha
        cases hq
        cases hx : blk u p with
        | none => exact .inl rfl
        | some g =>
          refine .inr fun e => ?_
          obtain ⟨b', h1, h2⟩ := h.own j q' hq'
          rw [hb] at h1; cases h1
          have l1 := (ho.rng g hx).1
          have l2 := (h2.rng g e.symm).1
          omega
/-- a slice of slices in a block of such slices, from lo on and ahead of hi -/
def VZ (w : World) (lo hi : Nat) (v : Value) (vs : List Value) : Prop := ∃ A c, v = .slice A vs.length c ∧ vs.length ≤ c ∧ c ≤ maxLen ∧
  (0 < vs.length → ∃ g off cur, A = some ⟨g, off, none⟩ ∧ (lo ≤ g ∧ g < hi) ∧ w.heap[g]? = some (.cells cur 23 (0, 0)) ∧ ∀ (k : Nat) u, vs[k]? = some u → cur[off + k]? = some u)
theorem VZ.of {w : World} {lo hi : Nat} {v : Value} {vs : List Value} (h : VOwns 23 w lo v vs) (hh : w.heap.size ≤ hi) : VZ w lo hi v vs := by
  have h' := h
  rcases h.2 with ⟨rfl, h0⟩ | ⟨g, cap, cur, rfl, hb, hg, hn, hc, hs, ht⟩
  · exact ⟨none, 0, by rw [h0], by omega, by simp [maxLen], fun k => by omega⟩
  · refine ⟨some ⟨g, 0, none⟩, cap, rfl, hn, hc, fun _ => ⟨g, 0, cur, rfl, ⟨hb, Nat.lt_of_lt_of_le (h'.lt g rfl).2 hh⟩, hg, fun k u hk => ?_⟩⟩
    have hkl := (List.getElem?_eq_some_iff.1 hk).1
    rw [← ht, List.getElem?_take_of_lt (by omega), Array.getElem?_toList] at hk
    rw [Nat.zero_add]; exact hk
theorem VZ.keptBy {w w' : World} {lo hi : Nat} {v : Value} {vs : List Value} (h : VZ w lo hi v vs) (hk : ∀ g, lo ≤ g → g < hi → g < w.heap.size → w'.heap[g]? = w.heap[g]?) : VZ w' lo hi v vs := by
  obtain ⟨A, c, h1, h2, h3, h4⟩ := h
  refine ⟨A, c, h1, h2, h3, fun h0 => ?_⟩
  obtain ⟨g, off, cur, h5, h6, h7, h8⟩ := h4 h0
  exact ⟨g, off, cur, h5, h6, (hk g h6.1 h6.2 (Array.getElem?_eq_some_iff.1 h7).1).trans h7, h8⟩
theorem VZ.wider {w : World} {lo lo' hi hi' : Nat} {v : Value} {vs : List Value} (h : VZ w lo hi v vs) (hl : lo' ≤ lo) (hh : hi ≤ hi') : VZ w lo' hi' v vs := by
  obtain ⟨A, c, h1, h2, h3, h4⟩ := h
  refine ⟨A, c, h1, h2, h3, fun h0 => ?_⟩
  obtain ⟨g, off, cur, h5, h6, h7, h8⟩ := h4 h0
  exact ⟨g, off, cur, h5, ⟨by omega, by omega⟩, h7, h8⟩
theorem VZ.shape {w : World} {lo hi : Nat} {v : Value} {vs : List Value} (h : VZ w lo hi v vs) : ∃ A c, v = .slice A vs.length c ∧ vs.length ≤ c ∧ c ≤ maxLen ∧
    (0 < vs.length → ∃ g off, A = some ⟨g, off, none⟩ ∧ (lo ≤ g ∧ g < hi) ∧ g < w.heap.size ∧ ∀ (k : Nat) u, vs[k]? = some u → w.cell? ⟨g, off + k, none⟩ = some u) := by
  obtain ⟨A, c, h1, h2, h3, h4⟩ := h
  refine ⟨A, c, h1, h2, h3, fun h0 => ?_⟩
  obtain ⟨g, off, cur, h5, h6, h7, h8⟩ := h4 h0
  exact ⟨g, off, h5, h6, (Array.getElem?_eq_some_iff.1 h7).1, fun k u hk => by rw [cell_of_row w g _ cur _ (0, 0) h7]; exact h8 k u hk⟩
theorem VZ.nil (w : World) (lo hi : Nat) (A : Option Addr) (c : Nat) (hc : c ≤ maxLen) : VZ w lo hi (.slice A 0 c) [] := ⟨A, c, rfl, Nat.zero_le _, hc, fun h => absurd h (by simp)⟩
theorem VZ.take {w : World} {lo hi n c k : Nat} {A : Option Addr} {vs : List Value} (h : VZ w lo hi (.slice A n c) vs) (hk : k ≤ vs.length) : VZ w lo hi (.slice A k c) (vs.take k) := by
  obtain ⟨A', c', h1, h2, h3, h4⟩ := h
  cases h1
  have e : (vs.take k).length = k := by rw [List.length_take]; omega
  refine ⟨A, c, by rw [e], by omega, h3, fun h0 => ?_⟩
  obtain ⟨g, off, cur, h5, h6, h7, h8⟩ := h4 (by omega)
  refine ⟨g, off, cur, h5, h6, h7, fun j u hj => h8 j u ?_⟩
  rw [List.getElem?_take] at hj
  split at hj
  · exact hj
  · cases hj
theorem VZ.drop {w : World} {lo hi n c k g off : Nat} {vs : List Value} (h : VZ w lo hi (.slice (some ⟨g, off, none⟩) n c) vs) (hk : k < vs.length) : VZ w lo hi (.slice (some ⟨g, off + k, none⟩) (n - k) (c - k)) (vs.drop k) := by
  obtain ⟨A', c', h1, h2, h3, h4⟩ := h
  cases h1
  refine ⟨_, _, by rw [List.length_drop], by rw [List.length_drop]; omega, by omega, fun h0 => ?_⟩
  obtain ⟨g', off', cur, h5, h6, h7, h8⟩ := h4 (by omega)
  cases h5
  refine ⟨g, off + k, cur, rfl, h6, h7, fun j u hj => ?_⟩
  rw [List.getElem?_drop] at hj
  rw [Nat.add_assoc]
  exact h8 _ u hj
theorem preadsZ {w : World} {lo hi : Nat} {v : Value} {vs : List Value} {ls : List (List Sp)} (h : VZ w lo hi v vs) (hl : vs.length = ls.length) (ho : ∀ (k : Nat) p, ls[k]? = some p → ∃ u, vs[k]? = some u ∧ OZ w lo hi u p) : PReads w hi v ls := by
  obtain ⟨A, c, rfl, h3, h4, h5⟩ := h.shape
  refine ⟨A, c, vs, by rw [hl], by omega, h4, hl, fun h0 => ?_, fun k p hk => ?_⟩
  · obtain ⟨g, off, rfl, h6, _, h7⟩ := h5 (by omega)
    exact ⟨g, off, rfl, h6.2, h7⟩
  · obtain ⟨u, h6, h7⟩ := ho k p hk
    exact ⟨u, h6, h7.reads⟩

/-- a desk that reads so -/
def DeskR (w : World) (B : Nat) (v : Value) (d : Dk) : Prop := ∃ n p, v = .agg #[n, p] ∧ Reads w B n d.1 ∧ PReads w B p d.2
theorem DeskR.below {w w' : World} {B : Nat} {v : Value} {d : Dk} (h : DeskR w B v d) (hb : Below B w w') : DeskR w' B v d := by
  obtain ⟨n, p, e, h1, h2⟩ := h
  exact ⟨n, p, e, h1.below hb, h2.below hb⟩
theorem DeskR.more {w : World} {B B' : Nat} {v : Value} {d : Dk} (h : DeskR w B v d) (hB : B ≤ B') : DeskR w B' v d := by
  obtain ⟨n, p, e, h1, h2⟩ := h
  exact ⟨n, p, e, h1.more hB, h2.more hB⟩
theorem DeskR.kept {w w' : World} {v : Value} {d : Dk} (h : DeskR w w.heap.size v d) (hb : Below w.heap.size w w') : DeskR w' w'.heap.size v d := (h.below hb).more hb.size
/-- what is below B stays, whatever the world that was made of it -/
theorem DeskR.keep {w w' : World} {B : Nat} {v : Value} {d : Dk} (h : DeskR w B v d) (hb : Below B w w') (hs : B ≤ w.heap.size) : DeskR w' w'.heap.size v d := (h.below hb).more (Nat.le_trans hs hb.size)
theorem DeskR.zero (w : World) (B : Nat) : DeskR w B (.agg #[.slice none 0 0, .slice none 0 0]) ([], []) :=
  ⟨_, _, rfl, Reads.nil _ _, ⟨none, 0, [], rfl, Nat.le_refl _, by simp [maxLen], rfl, fun h => absurd h (by simp), fun k p h => by cases h⟩⟩
/-- a desk that the call itself made, in blocks from lo on and ahead of hi -/
def DeskO (w : World) (lo hi : Nat) (v : Value) (d : Dk) : Prop := ∃ n p vs, v = .agg #[n, p] ∧ VZ w lo hi p vs ∧ InZ w lo hi (n :: vs) (d.1 :: d.2) ∧ hi ≤ w.heap.size
theorem DeskO.keptBy {w w' : World} {lo hi : Nat} {v : Value} {d : Dk} (h : DeskO w lo hi v d) (hs : w.heap.size ≤ w'.heap.size) (hk : ∀ g, lo ≤ g → g < hi → g < w.heap.size → w'.heap[g]? = w.heap[g]?) : DeskO w' lo hi v d := by
  obtain ⟨n, p, vs, e, h1, h2, h3⟩ := h
  exact ⟨n, p, vs, e, h1.keptBy hk, h2.keptBy hk, Nat.le_trans h3 hs⟩
theorem DeskO.below {w w' : World} {lo hi : Nat} {v : Value} {d : Dk} (h : DeskO w lo hi v d) (hb : Below w.heap.size w w') : DeskO w' lo hi v d := h.keptBy hb.size fun g _ _ hg => hb.block g hg
theorem DeskO.apart {w w' : World} {lo hi a b : Nat} {v : Value} {d : Dk} (h : DeskO w lo hi v d) (hg : GrownIn a b w w') (hab : hi ≤ a ∨ b ≤ lo) : DeskO w' lo hi v d := h.keptBy hg.size fun g h1 h2 h3 => hg.block g h3 (by omega)
theorem DeskO.wider {w : World} {lo lo' hi hi' : Nat} {v : Value} {d : Dk} (h : DeskO w lo hi v d) (hl : lo' ≤ lo) (hh : hi ≤ hi') (hs : hi' ≤ w.heap.size) : DeskO w lo' hi' v d := by
  obtain ⟨n, p, vs, e, h1, h2, h3⟩ := h
  exact ⟨n, p, vs, e, h1.wider hl hh, h2.wider hl hh, hs⟩
theorem DeskO.fits {w : World} {lo hi : Nat} {v : Value} {d : Dk} (h : DeskO w lo hi v d) : hi ≤ w.heap.size := by
  obtain ⟨_, _, _, _, _, _, h⟩ := h; exact h
theorem DeskO.reads {w : World} {lo hi : Nat} {v : Value} {d : Dk} (h : DeskO w lo hi v d) : DeskR w hi v d := by
  obtain ⟨n, p, vs, e, h1, h2, h3⟩ := h
  obtain ⟨u, k1, k2⟩ := h2.own 0 d.1 rfl
  cases k1
  refine ⟨n, p, e, k2.reads, preadsZ h1 (by have := h2.len; simpa using this) fun k q hq => ?_⟩
  obtain ⟨u, k3, k4⟩ := h2.own (k + 1) q (by rw [List.getElem?_cons_succ]; exact hq)
  rw [List.getElem?_cons_succ] at k3
  exact ⟨u, k3, k4⟩
theorem DeskO.rd {w : World} {lo hi : Nat} {v : Value} {d : Dk} (h : DeskO w lo hi v d) : DeskR w w.heap.size v d := h.reads.more h.fits
theorem DeskO.zero (w : World) (lo hi : Nat) (hl : lo ≤ hi) (hh : hi ≤ w.heap.size) : DeskO w lo hi (.agg #[.slice none 0 0, .slice none 0 0]) ([], []) :=
  ⟨_, _, [], rfl, VZ.nil _ _ _ _ _ (by simp [maxLen]), (InZ.nil w lo lo).cons (OZ.empty w lo hi none) (Nat.le_refl _) hl, hh⟩
/-- how many spots all its pictures have -/
def dsum (d : Dk) : Nat := d.1.length + (d.2.map List.length).sum
def marksD (d : Dk) (k : Int) : Dk := (marks d.1.length k, marksSS d.2 (k + 2 * (d.1.length : Int)))
def GivesDesk (d : Dk) (w : World) (e : Ending) (w' : World) : Prop := ∃ v', e = .returned v' ∧ DeskO w' w.heap.size w'.heap.size v' d ∧ Below w.heap.size w w'
/-- a desk that may share memory with what came in -/
def GivesRead (d : Dk) (w : World) (e : Ending) (w' : World) : Prop := ∃ v', e = .returned v' ∧ DeskR w' w'.heap.size v' d ∧ Below w.heap.size w w'
theorem Reads.keptIn {w w' : World} {v : Value} {ps : List Sp} (h : Reads w w.heap.size v ps) (hb : Below w.heap.size w w') : Reads w' w'.heap.size v ps := h.kept hb
/-- a block of another type is none of a list's -/
theorem Owns.apart2 {w : World} {base G : Nat} {v : Value} {ps : List Sp} {cs : Array Value} {T : TypeId} {m : Nat × Nat} (h : Owns w base v ps) (hG : w.heap[G]? = some (.cells cs T m)) (hT : T ≠ 53) : v.ownBlock = none ∨ v.ownBlock ≠ some G := by
  rcases h.2 with ⟨rfl, _⟩ | ⟨g, cap, cur, rfl, _, hg, _⟩
  · exact .inl rfl
  · refine .inr fun e => ?_
    cases e
    rw [hg] at hG
    injection hG with hG
    injection hG with h1 h2 h3
    exact hT h2.symm
theorem Owns.setFar2 {w : World} {base : Nat} {v : Value} {ps : List Sp} (h : Owns w base v ps) {a : Addr} (ha : v.ownBlock = none ∨ v.ownBlock ≠ some a.block) (x : Value) : Owns (w.setCell a x) base v ps := by
  refine ⟨h.1, ?_⟩
  rcases h.2 with h0 | ⟨g, cap, cur, rfl, h1, hg, h2⟩
  · exact .inl h0
  · refine .inr ⟨g, cap, cur, rfl, h1, (heap_setCell_other _ _ _ _ (fun e => ?_)).trans hg, h2⟩
    rcases ha with ha | ha
    · cases ha
    · exact ha (by rw [← e]; rfl)
theorem Owns.other2 {w : World} {base k : Nat} {v : Value} {ps : List Sp} (h : Owns w base v ps) (hk : k < base) : v.ownBlock = none ∨ v.ownBlock ≠ some k := by
  cases hv : v.ownBlock with
  | none => exact .inl rfl
  | some j => exact .inr (fun e => by have := (h.lt j hv).1; cases e; omega)
end
/-! ### DeskL -/
section
open Go.RowKit Go.Sort

theorem below_grown {w w' : World} (h : Below w.heap.size w w') (row : Option Nat) : w.grownBy w' row := ⟨h.os, h.tape, h.output, h.size, fun k hk _ => h.block k hk⟩
theorem InZ.put {w w' : World} {lo hi : Nat} {vs : List Value} {cur : List (List Sp)} {i : Nat} {u : Value} {p m : List Sp} (h : InZ w lo hi vs cur) (hp : cur[i]? = some p) (hu : vs[i]? = some u) (hm : m.length = p.length) (hg : w.grownBy w' (blk u p)) (ho : OZ w' lo hi u m) : InZ w' lo hi vs (cur.set i m) := by
  have hil := (List.getElem?_eq_some_iff.1 hp).1
  have hb : ∀ (k : Nat) (x : Value) q, vs[k]? = some x → (cur.set i m)[k]? = some q → ∃ q', cur[k]? = some q' ∧ blk x q = blk x q' := fun k x q hx hq => by
    by_cases e : i = k
    · subst e
      rw [List.getElem?_set_self hil] at hq
      cases hq
      exact ⟨p, hp, blk_congr hm⟩
    · rw [List.getElem?_set_ne e] at hq
      exact ⟨q, hq, rfl⟩
  refine ⟨by rw [List.length_set]; exact h.len, fun k q hk => ?_, fun a b x y q r hab hx hy hq hr => ?_⟩
  · by_cases e : i = k
    · subst e
      rw [List.getElem?_set_self hil] at hk
      cases hk
      exact ⟨u, hu, ho⟩
    · rw [List.getElem?_set_ne e] at hk
      obtain ⟨x, h1, h2⟩ := h.own k q hk
      refine ⟨x, h1, h2.other hg ?_⟩
      rcases Nat.lt_or_ge k i with hlt | hge
      · exact h.ne k i x u q p hlt h1 hu hk hp
      · rcases h.ne i k u x p q (by omega) hu h1 hp hk with e' | e'
        · rw [e']
          cases hv : blk x q with
          | none => exact .inl rfl
          | some g => exact .inr fun e => by cases e
        · exact .inr fun e'' => e' e''.symm
  · obtain ⟨q', c1, c2⟩ := hb a x q hx hq
    obtain ⟨r', c3, c4⟩ := hb b y r hy hr
    rw [c2, c4]
    exact h.ne a b x y q' r' hab hx hy c1 c3

theorem VZ.apart {w w' : World} {lo hi a b : Nat} {v u : Value} {vs : List Value} {p : List Sp} (h : VZ w lo hi v vs) (ho : OZ w a b u p) (hg : w.grownBy w' (blk u p)) : VZ w' lo hi v vs := by
  obtain ⟨A, c, h1, h2, h3, h4⟩ := h
  refine ⟨A, c, h1, h2, h3, fun h0 => ?_⟩
  obtain ⟨g, off, cur, h5, h6, h7, h8⟩ := h4 h0
  refine ⟨g, off, cur, h5, h6, (hg.block g (Array.getElem?_eq_some_iff.1 h7).1 fun e => ?_).trans h7, h8⟩
  rcases ho with ⟨rfl, _⟩ | ⟨e2, ho, _⟩
  · rw [blk_nil] at e; cases e
  · rw [blk_yes e2] at e
    rcases ho.apart2 h7 parts_apart with e3 | e3
    · rw [e3] at e; cases e
    · exact e3 e.symm
theorem dsum_le {d : Dk} {m : Nat} (h : dsum d ≤ m) : d.1.length ≤ m ∧ (d.2.map List.length).sum ≤ m := by unfold dsum at h; omega
set_option maxHeartbeats 1600000 in
theorem sameDesk_any (d x : Dk) (v v' : Value) (w : World) (h : DeskR w w.heap.size v d) (h' : DeskR w w.heap.size v' x) : Calls Tryz.prog 8 #[v, v'] w (Gives (.bool (decide (d = x))) w) := by
  obtain ⟨n, p, rfl, rn, rp⟩ := h
  obtain ⟨m, q, rfl, rm, rq⟩ := h'
  obtain ⟨An, cn, rfl, _, _⟩ := rn.slice
  obtain ⟨Ap, cp, rfl, _, _⟩ := rp.slice
  obtain ⟨Am, cm, rfl, _, _⟩ := rm.slice
  obtain ⟨Aq, cq, rfl, _, _⟩ := rq.slice
  obtain ⟨W, hW⟩ : ∃ W, W = (w.alloc (.cells #[.slice An d.1.length cn, .slice Ap d.2.length cp] 26)).alloc (.cells #[.slice Am x.1.length cm, .slice Aq x.2.length cq] 26) := ⟨_, rfl⟩
  have b0 : Below w.heap.size w W := by rw [hW]; exact (box_below w _ _).alloc (by simp) _
  have q0 : W.cell? ⟨w.heap.size, 0, none⟩ = some (.slice An d.1.length cn) := by rw [hW]; simp [go_sem, World.cell?_alloc_past]
  have q1 : W.cell? ⟨w.heap.size, 1, none⟩ = some (.slice Ap d.2.length cp) := by rw [hW]; simp [go_sem, World.cell?_alloc_past]
  have q2 : W.cell? ⟨w.heap.size + 1, 0, none⟩ = some (.slice Am x.1.length cm) := by rw [hW]; simp [go_sem]
  have q3 : W.cell? ⟨w.heap.size + 1, 1, none⟩ = some (.slice Aq x.2.length cq) := by rw [hW]; simp [go_sem]
  have s0 : w.heap.size + 2 = W.heap.size := by rw [hW]; simp
  have r0 := rn.kept b0
  have r1 := rp.kept b0
  have r2 := rm.kept b0
  have r3 := rq.kept b0
  rcases hk : decide (d.1 = x.1) with _ | _
  · have HR := Lib.hid (show decide (d = x) = false from decide_eq_false fun e => of_decide_eq_false hk (by rw [e]))
    have HK := Lib.hid hk
    clear hk
    go_enter Tryz.func8, Tryz.ntmps8
    go_wp2_with (first | (rw [← hW]; clear hW) | fail)
    refine (gives_is HK.out (sameSpots_any _ _ _ _ _ r0 r2)).mono ?_
    rintro e w1 ⟨rfl, b1⟩
    go_wp2
    go_ret
    exact ⟨ret_bool HR.out.symm, below_step b0 b1⟩
  · rcases hk2 : decide (d.2 = x.2) with _ | _
    · have HR := Lib.hid (show decide (d = x) = false from decide_eq_false fun e => of_decide_eq_false hk2 (by rw [e]))
      have HK := Lib.hid hk
      have HK2 := Lib.hid hk2
      clear hk hk2
      go_enter Tryz.func8, Tryz.ntmps8
      go_wp2_with (first | (rw [← hW]; clear hW) | fail)
      refine (gives_is HK.out (sameSpots_any _ _ _ _ _ r0 r2)).mono ?_
      rintro e w1 ⟨rfl, b1⟩
      have q1 := (b1.cell (p := ⟨w.heap.size, 1, none⟩) (by simp only []; omega)).trans q1
      have q3 := (b1.cell (p := ⟨w.heap.size + 1, 1, none⟩) (by simp only []; omega)).trans q3
      go_wp2_with fail
      refine (gives_is HK2.out (sameParts_any _ _ _ _ _ (r1.kept b1) (r3.kept b1))).mono ?_
      rintro e w2 ⟨rfl, b2⟩
      go_wp2
      go_ret
      exact ⟨ret_bool HR.out.symm, below_step (below_step b0 b1) b2⟩
    · have HR := Lib.hid (show decide (d = x) = true from decide_eq_true (Prod.ext (of_decide_eq_true hk) (of_decide_eq_true hk2)))
      have HK := Lib.hid hk
      have HK2 := Lib.hid hk2
      clear hk hk2
      go_enter Tryz.func8, Tryz.ntmps8
      go_wp2_with (first | (rw [← hW]; clear hW) | fail)
      refine (gives_is HK.out (sameSpots_any _ _ _ _ _ r0 r2)).mono ?_
      rintro e w1 ⟨rfl, b1⟩
      have q1 := (b1.cell (p := ⟨w.heap.size, 1, none⟩) (by simp only []; omega)).trans q1
      have q3 := (b1.cell (p := ⟨w.heap.size + 1, 1, none⟩) (by simp only []; omega)).trans q3
      go_wp2_with fail
      refine (gives_is HK2.out (sameParts_any _ _ _ _ _ (r1.kept b1) (r3.kept b1))).mono ?_
      rintro e w2 ⟨rfl, b2⟩
      go_wp2
      go_ret
      exact ⟨ret_bool HR.out.symm, below_step (below_step b0 b1) b2⟩
theorem sameD_is {b : Bool} {d x : Dk} {v v' : Value} {w : World} (hk : decide (d = x) = b) (h : DeskR w w.heap.size v d) (h' : DeskR w w.heap.size v' x) : Calls Tryz.prog 8 #[v, v'] w (Gives (.bool b) w) := by
  subst hk; exact sameDesk_any d x v v' w h h'
theorem noDesk_any {b : Bool} (d : Dk) (hk : decide (d = (([], []) : Dk)) = b) (v : Value) (w : World) (h : DeskR w w.heap.size v d) : Calls Tryz.prog 16 #[v] w (Gives (.bool b) w) := by
  obtain ⟨n, p, rfl, rn, rp⟩ := h
  obtain ⟨An, cn, rfl, _, _⟩ := rn.slice
  obtain ⟨Ap, cp, rfl, _, _⟩ := rp.slice
  go_enter Tryz.func16, Tryz.ntmps16
  go_wp2_with fail
  refine (sameD_is hk (DeskR.kept ⟨_, _, rfl, rn, rp⟩ (box_below _ _ _)) (DeskR.zero _ _)).mono ?_
  rintro e w1 ⟨rfl, b1⟩
  go_wp2
  go_ret
  exact ⟨rfl, below_step (box_below _ _ _) b1⟩
end
/-! ### DeskT -/
section
open Go.RowKit Go.Sort

/-! ### size -/
/-- too much: the size of the first j lists -/
def SumAt (ls : List (List Sp)) (j : Nat) (left : Int) : Prop := (sumUpTo ls j : Int) + (ls.length : Int) ≤ left
/-- how much a desk weighs -/
def dsz (d : Dk) : Nat := d.1.length + (d.2.length + (d.2.map List.length).sum)
theorem sz_sum {d : Dk} {m : Nat} (h : dsz d ≤ m) : dsum d ≤ m ∧ d.1.length ≤ m ∧ d.2.length ≤ m := by unfold dsz at h; unfold dsum; omega
/-! ### copies -/
theorem take_set_succ {α : Type} {l : List α} {k : Nat} {x : α} (h : k < l.length) : (l.set k x).take (k + 1) = l.take k ++ [x] := by
  apply List.ext_getElem?
  intro j
  rcases Nat.lt_trichotomy j k with hj | hj | hj
  · rw [List.getElem?_take_of_lt (by omega), List.getElem?_set_ne (by omega), List.getElem?_append_left (by rw [List.length_take]; omega), List.getElem?_take_of_lt hj]
  · subst hj
    rw [List.getElem?_take_of_lt (by omega), List.getElem?_set_self h, List.getElem?_append_right (by rw [List.length_take]; omega), List.length_take, Nat.min_eq_left (by omega), Nat.sub_self]; rfl
  · rw [List.getElem?_eq_none (by rw [List.length_take, List.length_set]; omega), List.getElem?_eq_none (by rw [List.length_append, List.length_take, List.length_singleton]; omega)]
theorem take_succ_at {α : Type} {l : List α} {k : Nat} {x : α} (h : l[k]? = some x) : l.take (k + 1) = l.take k ++ [x] := by
  rw [List.take_add_one, h]; rfl
def GivesSS (ls : List (List Sp)) (w : World) (e : Ending) (w' : World) : Prop := ∃ v' vs, e = .returned v' ∧ VZ w' w.heap.size w'.heap.size v' vs ∧ InZ w' w.heap.size w'.heap.size vs ls ∧ Below w.heap.size w w'
theorem set3_other {W : World} {a b c : Addr} {x y z : Value} {g : Nat} (ha : g ≠ a.block) (hb : g ≠ b.block) (hc : g ≠ c.block) : (((W.setCell a x).setCell b y).setCell c z).heap[g]? = W.heap[g]? :=
  (heap_setCell_other _ _ _ _ hc).trans ((heap_setCell_other _ _ _ _ hb).trans (heap_setCell_other _ _ _ _ ha))
theorem size_set3 (W : World) (a b c : Addr) (x y z : Value) : (((W.setCell a x).setCell b y).setCell c z).heap.size = W.heap.size := by simp [World.setCell]
end
end Go.Proofs.YtkiidmdgdjphjaaGreat
