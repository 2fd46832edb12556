/- The program's iterator over what is left of a picture by greater and greater squares: what it hands on, round by round. No conditions but those typed. -/
import Derived.Test.YtbdmppejflokaaaSieveI
import Derived.Test.YtbdmppejflokaaaRangeM
import Derived.Shelf.Abstract
import Derived.OwnWalkIn
import Derived.TacticsInMore
import Derived.LoopNIn
import Derived.LoopIn
namespace Go.Proofs.Ytbdmppejflokaaa
open Go.RowKit Go.Sort
attribute [local go_sem] Oper.semAt_some

theorem Owns.saves {own : Nat → Prop} {W W' : World} {base : Nat} {v : Value} {ps : List Sp} (h : Owns W base v ps) (hs : Saves own W W') (ho : ∀ k, own k → k < base) : Owns W' base v ps := by
  refine ⟨h.1, ?_⟩
  rcases h.2 with h0 | ⟨g, cap, cur, rfl, h1, hg, h2⟩
  · exact .inl h0
  · exact .inr ⟨g, cap, cur, rfl, h1, (hs.block g (Array.getElem?_eq_some_iff.1 hg).1 (fun e => by have := ho g e; omega)).trans hg, h2⟩
theorem Owns.ofCells (base : Nat) (v : Value) (ps : List Sp) : OfCells fun w => Owns w base v ps := fun A B h _ hc => by
  refine ⟨h.1, ?_⟩
  rcases h.2 with h0 | ⟨g, cap, cur, rfl, h1, hg, h2⟩
  · exact .inl h0
  · exact .inr ⟨g, cap, cur, rfl, h1, hc g _ hg rfl, h2⟩

/-- what a round is handed: a slice, and whether it is told -/
abbrev encL (x : Value × Bool) : Array Value := #[x.1, .bool x.2]
/-- what is handed on in the k-th round -/
def LeftIs (ps : List Sp) (k : Nat) (x : Value × Bool) (w : World) : Prop := x.2 = sieveOk ps ((k : Int) + 1) ∧ Owns w 0 x.1 (sieveR ps ((k : Int) + 1))
theorem leftIs_cells (ps : List Sp) (k : Nat) (x : Value × Bool) : OfCells (LeftIs ps k x) := (OfCells.pure _).and (Owns.ofCells _ _ _)
/-- how many rounds there are -/
def roundsN (ps : List Sp) : Nat := if picB ps then 5 else 1
/-- between two rounds: what is sieved next, and that it tells what is asked -/
structure StepOk (ps : List Sp) (k : Nat) (b : Bool) (qs : List Sp) : Prop where
  most : k ≤ 5
  go : b = true → k ≤ 4 → sieveOk qs ((k : Int) + 1) = sieveOk ps ((k : Int) + 1) ∧ sieveR qs ((k : Int) + 1) = sieveR ps ((k : Int) + 1) ∧ k < roundsN ps
  stop : b = false ∨ k = 5 → k = roundsN ps
theorem stepOk_zero (ps : List Sp) : StepOk ps 0 true ps := ⟨by omega, fun _ _ => ⟨rfl, rfl, by unfold roundsN; split <;> omega⟩, fun h => by
  rcases h with h | h
  · cases h
  · omega⟩
theorem sieveOk_pic {p : List Sp} (hp : picB p = true) {k : Nat} (h : k ≤ 4) : sieveOk p ((k : Int) + 1) = true := by
  unfold sieveOk
  rw [hp, size_yes (by omega) (by omega)]; rfl
theorem sieveOk_nopic {p : List Sp} (hp : picB p = false) (s : Int) : sieveOk p s = false := by
  unfold sieveOk
  rw [hp, Bool.and_false]
theorem stepOk_next {ps qs : List Sp} {k : Nat} (h : StepOk ps k true qs) (hk : k ≤ 4) : StepOk ps (k + 1) (sieveOk ps ((k : Int) + 1)) (sieveR ps ((k : Int) + 1)) := by
  obtain ⟨_, _, hlt⟩ := h.go rfl hk
  rcases hp : picB ps with _ | _
  · have e : roundsN ps = 1 := by unfold roundsN; rw [hp]; rfl
    rw [sieveOk_nopic hp]
    exact ⟨by omega, fun h => (by cases h), fun _ => by omega⟩
  · have e : roundsN ps = 5 := by unfold roundsN; rw [hp]; rfl
    rw [sieveOk_pic hp hk]
    refine ⟨by omega, fun _ hk1 => ?_, fun h => ?_⟩
    · have h2 := sieveOk_pic hp hk1
      have S := sieved7 h2 (k := (k : Int) + 1) (by omega) (by omega)
      exact ⟨by rw [S.three, h2], S.other, by omega⟩
    · rcases h with h | h
      · cases h
      · omega

theorem wide_room {p : Prop} (h : Fence.wide.depth.isSome = true) : p := by cases h
set_option maxRecDepth 100000 in
theorem leftBy_any (A : Option Addr) (n c : Nat) (w : World) : Calls Try.prog 56 #[.slice A n c] w fun e w' => e = .returned (.func (.func 76) #[] #[.pointer (some ⟨w.heap.size, 0, none⟩)]) ∧ w' = w.alloc (.cells #[.slice A n c] 24) := by
  go_enter Try.func56, Try.ntmps56
  go_wp2
  go_ret
  exact ⟨rfl, rfl⟩

set_option maxRecDepth 100000 in
set_option maxHeartbeats 1600000 in
theorem left_seq (n n₀ B : Nat) (ps : List Sp) (v : Value) (own : Nat → Prop) (w : World) (hB : Boxed w B 24 v) (h : Reads w n₀ v ps) (hn : n₀ ≤ w.heap.size) (ho : ∀ k, own k → k < w.heap.size + 2) :
    SeqM Fence.wide n Try.prog 76 #[.pointer (some ⟨B, 0, none⟩)] encL (LeftIs ps) (roundsN ps) own w := fun l J Jx W hW hWs hJ _ hY h0 => by
  obtain ⟨A, c, rfl, hc, hm⟩ := h.slice
  have hb := (hW.cell (p := ⟨B, 0, none⟩) hB.lt).trans hB.cell
  have hr := h.below (hW.mono hn)
  refine callsIn_of_wp Try.func76 rfl trivial ?_
  simp only [Try.ntmps76, List.size_toArray, List.length_cons, List.length_nil, Nat.reduceAdd, Nat.reduceSub, Array.replicate_succ, Array.replicate_zero, List.push_toArray, List.append_toArray, List.nil_append, List.cons_append]
  gi_wp2
  gi_loopw [3, 4, 5] (fun lv ov sv wr => ∃ (k : Nat) (b : Bool) (qs : List Sp), ov = .bool b ∧ sv = .int .i64 ((k : Int) + 1) ∧ J k wr ∧ (Reads wr n₀ lv qs ∨ Owns wr W.heap.size lv qs) ∧ StepOk ps k b qs ∧ W.heap.size ≤ wr.heap.size)
    (fun _ _ sv _ => (6 - intOf sv).toNat)
  case atStart => exact ⟨0, true, ps, rfl, rfl, h0, .inl hr, stepOk_zero ps, Nat.le_refl _⟩
  case round =>
    obtain ⟨k, b, qs, rfl, rfl, hj, hrd, hst, hsz⟩ := hrel
    have hk5 := hst.most
    cases b with
    | false =>
      have hk := hst.stop (.inl rfl)
      rw [hk] at hj
      clear hk hst hk5
      gi_wp2
      go_end0
      exact ⟨⟨_, rfl⟩, .inl hj⟩
    | true =>
      by_cases h4 : k ≤ 4
      · obtain ⟨e1, e2, hkN⟩ := hst.go rfl h4
        have hnx := stepOk_next hst h4
        have hle : decide ((k : Int) + 1 ≤ 5) = true := decide_eq_true (by omega)
        have hru : Reads wr wr.heap.size u3 qs := hrd.elim (fun h => h.more (by have := hW.size; omega)) (fun h => h.reads)
        obtain ⟨A', c', rfl, hc', hm'⟩ := hru.slice
        clear hst
        gi_wp2_with fail
        refine ⟨trivial, wide_room, ?_⟩
        refine (callsIn_wide.2 (sieve_any qs _ ((k : Int) + 1) wr hru)).mono ?_
        rintro e w1 ⟨u1, rfl, o1, b1⟩
        rw [e1]
        rw [e2] at o1
        clear e1 e2 hru hrd
        have hb1 := b1.size
        obtain ⟨fn, tmps, assign, body, hy, hR⟩ := hY k (u1, sieveOk ps ((k : Int) + 1)) w1 (hJ _ _ _ hj b1) hkN ⟨rfl, o1.base (Nat.zero_le _)⟩
        dsimp only [encL] at hy
        obtain ⟨ok1, hok1⟩ : ∃ ok1, sieveOk ps ((k : Int) + 1) = ok1 := ⟨_, rfl⟩
        rw [hok1] at hy hnx ⊢
        clear hok1
        gi_wp2
        refine ⟨wide_room, hR.mono ?_⟩
        rintro e W' (⟨rfl, hj2, hs2⟩ | ⟨rfl, hx2⟩)
        · have o2 := (o1.base (by omega)).saves hs2 (fun k h => by have := ho k h; omega)
          have hb2 := hs2.size
          gi_wp2
          go_roundw
          case rel => exact ⟨k + 1, ok1, _, rfl, by go_num, hj2, .inr o2, hnx, by omega⟩
          case measure => simp [intOf]; omega
        · gi_wp2
          refine bodyPost_ret (results_none rfl _ _ _) rfl ?_
          exact ⟨⟨_, rfl⟩, .inr ⟨k, hkN, hx2⟩⟩
      · have hk := hst.stop (.inr (by omega))
        have hle : decide ((k : Int) + 1 ≤ 5) = false := decide_eq_false (by omega)
        rw [hk] at hj
        clear hk hst hk5
        gi_wp2
        go_end0
        exact ⟨⟨_, rfl⟩, .inl hj⟩
end Go.Proofs.Ytbdmppejflokaaa
