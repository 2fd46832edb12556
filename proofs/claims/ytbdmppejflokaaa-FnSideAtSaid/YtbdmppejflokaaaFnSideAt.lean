/-
  Proved: the law of SideAt (FnSideAt) returns true for every code, and the code reads afterwards as it read before. No conditions.
-/
import Derived.Test.YtbdmppejflokaaaDraws8
import Derived.Test.YtbdmppejflokaaaSideS
import Derived.Test.YtbdmppejflokaaaSideI
import Derived.Test.YtbdmppejflokaaaHas2
import Derived.Test.YtbdmppejflokaaaOpen
namespace Go.Proofs.Ytbdmppejflokaaa.fnSideAt
open Go.ChangeShapes Go.WideShapes Go.ChangeAt Go.RowKit

theorem impl_lit {n : Int} {p : List Sp} {x y : Int} {v : Value} {w : World} (hn : sideR p (x, y) = n) (h : Reads w w.heap.size v p) : Calls Try.prog 31 #[v, .agg #[.int .i64 x, .int .i64 y]] w (Gives (.int .i64 n) w) := by
  subst hn; exact implSide_any p v x y w h
theorem spec_lit {n : Int} {p : List Sp} {x y : Int} {v : Value} {w : World} (hn : sideR p (x, y) = n) (h : Reads w w.heap.size v p) : Calls Try.prog 32 #[v, .agg #[.int .i64 x, .int .i64 y]] w (Gives (.int .i64 n) w) := by
  subst hn; exact specSide_any p v x y w h
theorem sieve_lit {b : Bool} {p q : List Sp} {s : Int} {v : Value} {w : World} (hb : sieveOk p s = b) (hq : sieveR p s = q) (h : Reads w w.heap.size v p) : Calls Try.prog 20 #[v, .int .i64 s] w (Gives2' q b w) := by
  subst hb hq; exact implSieved_any p v s w h
theorem has_lit {b : Bool} {p : List Sp} {x y : Int} {v : Value} {w : World} (hb : hasB p (x, y) = b) (h : Reads w w.heap.size v p) : Calls Try.prog 33 #[v, .agg #[.int .i64 x, .int .i64 y]] w (Gives (.bool b) w) := by
  subst hb; exact implHas_any p v x y w h
theorem has_is {p : List Sp} {a : Sp} (hp : picB p = true) : hasB p a = decide (a ∈ p) := by unfold hasB; rw [hp]; rfl
/-- of a side that there is -/
theorem side_facts {p : List Sp} {a : Sp} {s : Int} (hp : picB p = true) (h1 : 1 ≤ s) (h2 : s ≤ 5) : sieveOk p s = true ∧ hasB (sieveR p s) a = decide (s ≤ sideR p a) := by
  have ho : sieveOk p s = true := by unfold sieveOk; rw [hp, size_yes h1 h2]; rfl
  refine ⟨ho, ?_⟩
  rw [sieve_yes ho, has_is (pic_open hp (size_yes h1 h2))]
  exact decide_eq_decide.2 (sideR_is hp h1 h2)
theorem side_end {p : List Sp} {a : Sp} (hp : picB p = true) : hasB p a = !(sideR p a == 0) := by
  rw [has_is hp]
  have h := sideR_zero (a := a) hp
  by_cases hm : a ∈ p
  · have : ¬ sideR p a = 0 := fun e => (h.1 e) hm
    rw [decide_eq_true hm, beq_eq_false_iff_ne.2 this]; rfl
  · rw [decide_eq_false hm, beq_iff_eq.2 (h.2 hm)]; rfl
set_option maxRecDepth 100000 in
set_option maxHeartbeats 3200000 in
theorem walk (A : Option Addr) (n c : Nat) (w : World) (hb : Bytes w w.heap.size A n) (hn : n ≤ c) (hc : c ≤ 9223372036854775807) :
    Calls Try.prog 7 #[.slice A n c] w (Gives (.bool true) w) := by
  by_cases hbig : 1048576 < n
  · go_enter Try.func7, Try.ntmps7
    go_wp2
    go_ret
    exact ⟨rfl, Below.refl _ _⟩
  · go_enter Try.func7, Try.ntmps7
    go_wp2_with fail
    refine (drawSideAt_any A n c _ hb hn hc).mono ?_
    rintro e W ⟨v, ps, x, y, rfl, op, hpl, bb⟩
    obtain ⟨Ap, cp, rfl, _, _⟩ := op.reads.slice
    clear hb hn hc
    have ba := box_below W #[.int .i64 x, .int .i64 y] 39
    have c0 : (W.alloc (.cells #[.int .i64 x, .int .i64 y] 39)).cell? ⟨W.heap.size, 0, none⟩ = some (.int .i64 x) := by simp [go_sem]
    have c1 : (W.alloc (.cells #[.int .i64 x, .int .i64 y] 39)).cell? ⟨W.heap.size, 1, none⟩ = some (.int .i64 y) := by simp [go_sem]
    have t0 : W.heap.size < (W.alloc (.cells #[.int .i64 x, .int .i64 y] 39)).heap.size := by simp
    have op := op.below ba
    have bb := below_step bb ba
    clear ba
    obtain ⟨N, hN⟩ : ∃ N, sideR ps (x, y) = N := ⟨_, rfl⟩
    have HN := Lib.hid hN
    clear hN
    go_wp2_with fail
    refine (impl_lit HN.out op.reads).mono ?_
    rintro e w2 ⟨rfl, bn⟩
    have bb := below_step bb bn
    have op := op.below bn
    have c0 := ((bn).cell (p := ⟨W.heap.size, 0, none⟩) t0).trans c0
    have c1 := ((bn).cell (p := ⟨W.heap.size, 1, none⟩) t0).trans c1
    have t0 := Nat.lt_of_lt_of_le t0 (bn).size
    clear bn
    go_wp2_with fail
    refine (spec_lit HN.out op.reads).mono ?_
    rintro e w3 ⟨rfl, bn⟩
    have bb := below_step bb bn
    have op := op.below bn
    have c0 := ((bn).cell (p := ⟨W.heap.size, 0, none⟩) t0).trans c0
    have c1 := ((bn).cell (p := ⟨W.heap.size, 1, none⟩) t0).trans c1
    have t0 := Nat.lt_of_lt_of_le t0 (bn).size
    clear bn
    have hne : ((N != N)) = false := by simp
    rcases hp : picB ps with _ | _
    · have hM : N = -1 := by rw [← HN.out]; unfold sideR; rw [hp]; rfl
      subst hM
      clear hp
      go_wp2_with fail
      refine (alive_any _).mono ?_
      rintro e w4 ⟨rfl, bn⟩
      go_wp2
      go_ret
      exact ⟨rfl, below_step bb bn⟩
    · have h0 : ¬ N < 0 := fun h => by rw [← HN.out, sideR_neg, hp] at h; cases h
      have hr5 : N ≤ 5 := by rw [← HN.out]; exact (sideR_rng ps (x, y)).2
      have hlt0 : decide (N < 0) = false := decide_eq_false h0
      have HP := Lib.hid hp
      clear hp
      go_wp2
      go_loopw [6] (fun i wr => ∃ k : Int, i = .int .i64 k ∧ 1 ≤ k ∧ k ≤ 6 ∧ Below w3.heap.size w3 wr) (fun i _ => (6 - intOf i).toNat)
      case atStart => exact ⟨1, rfl, by omega, by omega, Below.refl _ _⟩
      case round =>
        obtain ⟨k, rfl, hk1, hk2, hbw⟩ := hrel
        have bb := below_step bb hbw
        have op := op.below hbw
        have c0 := ((hbw).cell (p := ⟨W.heap.size, 0, none⟩) t0).trans c0
        have c1 := ((hbw).cell (p := ⟨W.heap.size, 1, none⟩) t0).trans c1
        have t0 := Nat.lt_of_lt_of_le t0 (hbw).size
        by_cases hlt : k ≤ 5
        · have hd : decide (k ≤ 5) = true := decide_eq_true hlt
          have hF := side_facts (a := (x, y)) HP.out hk1 hlt
          rw [HN.out] at hF
          obtain ⟨l, hl⟩ : ∃ l, sieveR ps k = l := ⟨_, rfl⟩
          rw [hl] at hF
          have H := Lib.hid (And.intro hF hl)
          clear hF hl
          go_wp2_with fail
          refine (sieve_lit H.out.1.1 H.out.2 op.reads).mono ?_
          rintro e w4 ⟨v4, rfl, o4, bn⟩
          have hbw := below_step hbw bn
          have bb := below_step bb bn
          have op := op.below bn
          have c0 := ((bn).cell (p := ⟨W.heap.size, 0, none⟩) t0).trans c0
          have c1 := ((bn).cell (p := ⟨W.heap.size, 1, none⟩) t0).trans c1
          have t0 := Nat.lt_of_lt_of_le t0 (bn).size
          clear bn
          obtain ⟨A4, c4, rfl, _, _⟩ := o4.reads.slice
          by_cases hkn : k ≤ N
          · have hdk : decide (k ≤ N) = true := decide_eq_true hkn
            have hdg : decide (N < k) = false := decide_eq_false (by omega)
            have hh := H.out.1.2
            rw [hdk] at hh
            have HH := Lib.hid hh
            clear hh
            go_wp2_with fail
            refine (has_lit HH.out o4.reads).mono ?_
            rintro e w5 ⟨rfl, bn⟩
            have hbw := below_step hbw bn
            have bb := below_step bb bn
            have op := op.below bn
            have c0 := ((bn).cell (p := ⟨W.heap.size, 0, none⟩) t0).trans c0
            have c1 := ((bn).cell (p := ⟨W.heap.size, 1, none⟩) t0).trans c1
            have t0 := Nat.lt_of_lt_of_le t0 (bn).size
            clear bn
            go_wp2
            go_roundw
            case rel => exact ⟨k + 1, rfl, by omega, by omega, hbw⟩
            case measure => simp [intOf]; omega
          · have hdk : decide (k ≤ N) = false := decide_eq_false hkn
            have hdg : decide (N < k) = true := decide_eq_true (by omega)
            have hh := H.out.1.2
            rw [hdk] at hh
            have HH := Lib.hid hh
            clear hh
            go_wp2_with fail
            refine (has_lit HH.out o4.reads).mono ?_
            rintro e w5 ⟨rfl, bn⟩
            have hbw := below_step hbw bn
            have bb := below_step bb bn
            have op := op.below bn
            have c0 := ((bn).cell (p := ⟨W.heap.size, 0, none⟩) t0).trans c0
            have c1 := ((bn).cell (p := ⟨W.heap.size, 1, none⟩) t0).trans c1
            have t0 := Nat.lt_of_lt_of_le t0 (bn).size
            clear bn
            go_wp2
            go_roundw
            case rel => exact ⟨k + 1, rfl, by omega, by omega, hbw⟩
            case measure => simp [intOf]; omega
        · have hd : decide (k ≤ 5) = false := decide_eq_false hlt
          have hE := side_end (a := (x, y)) HP.out
          rw [HN.out] at hE
          have HE := Lib.hid hE
          clear hE
          rcases hz : (N == 0) with _ | _
          all_goals
            have hh := HE.out
            rw [hz] at hh
            have HH := Lib.hid hh
            clear hh
            go_wp2_with fail
            refine (has_lit HH.out op.reads).mono ?_
            rintro e w4 ⟨rfl, bn⟩
            have bb := below_step bb bn
            have op := op.below bn
            have c0 := ((bn).cell (p := ⟨W.heap.size, 0, none⟩) t0).trans c0
            have c1 := ((bn).cell (p := ⟨W.heap.size, 1, none⟩) t0).trans c1
            have t0 := Nat.lt_of_lt_of_le t0 (bn).size
            clear bn
            go_wp2_with fail
            refine (alive_any _).mono ?_
            rintro e w5 ⟨rfl, bn⟩
            go_wp2
            go_ret
            exact ⟨rfl, below_step bb bn⟩

set_option maxRecDepth 100000 in
theorem lifted (os : Os) (started : os.Started) (H : Type) (enc : TypeId × Value → H) :
    ReturnsInHanded {} Try.checked os 7 .any (Rows.fnSideAtSpec.pre6 enc Try.prog Try.f7 Rows.fnSideAtRow.domain false) (Rows.fnSideAtSpec.post enc Try.prog Try.f7 false true false false) := by
  refine returnsInHanded_of_change (C := Try.checked) own started (by kernel_rfl) Try.func7
    (ChangeSpec.witness6 (enc := enc) (C := Try.checked) false ⟨#[], #[.slice none 0 0], []⟩ 8 (by kernel_rfl) (by kernel_rfl) (by kernel_rfl) (by kernel_rfl)) ?_
  intro W base args ds gs before hval0 hW _ _
  have hval : ∀ (j : Nat) t v, Try.f7.params[j]? = some t → args[j]? = some v → Value.okWide Try.prog W .any base t v := hval0
  have hW' := hW
  obtain ⟨p, q, hA0, hV, rfl, _, _⟩ := hW
  have hA : DataW.TrodAll enc Try.prog W 0 (fun _ => true) true Try.f7.params.toList args.toList ds p := hA0
  rw [Try.params7] at hA hval
  obtain ⟨v0, d0, rfl, rfl, h0⟩ := trodAll_one hA
  obtain ⟨rfl, rfl⟩ := trodVars_none hV
  clear hA0 hval0
  simp only [List.append_nil] at hW'
  have hlt : ∀ x ∈ p, x.block < W.heap.size := fun x hx => by simpa using hW'.lt x hx
  have r0 := open_bytes (hval 0 22 v0 rfl rfl) h0 hlt
  obtain ⟨⟨bA, bn, bc⟩, rfl, rb, rn, rc⟩ := r0
  simp only at rb rn rc
  refine (walk bA bn bc W rb rn rc).mono fun e W' hg => ?_
  obtain ⟨he, hb⟩ := hg
  subst he
  exact ⟨_, rfl, _, _, _, [], p, [], hW', trodAll_mk1 (shut_bool Try.underlying4 _), trodAll_mk1 (kept_arg (by kernel_rfl) (of_decide_eq_true (by kernel_rfl)) h0 hb hlt), rfl, hb.frame _, fun h => by cases h⟩

theorem holds : Rows.FnSideAtSaid :=
  OpenClaim.holds_of_wide 7 Try.f7 rfl rfl rfl rfl rfl rfl rfl ⟨rfl, rfl, rfl, rfl, rfl⟩ rfl rfl rfl rfl rfl (by kernel_rfl) Try.func7 (by kernel_rfl)
    (of_decide_eq_true (by kernel_rfl)) (by unfold Func.isWrapper; first | (rw [if_pos (by decide +kernel)]; kernel_rfl) | (rw [if_neg (by decide +kernel)]; exact ⟨rfl, rfl⟩))
    (fun os started H enc _ => lifted os started H enc)
end Go.Proofs.Ytbdmppejflokaaa.fnSideAt
