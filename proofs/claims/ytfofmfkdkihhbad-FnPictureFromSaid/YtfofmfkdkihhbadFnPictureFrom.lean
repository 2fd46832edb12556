/-
  Proved: the law of PictureFrom (FnPictureFrom) returns true for every code, and the code reads afterwards as it read before. No conditions.
-/
import Derived.Test.YtfofmfkdkihhbadDrawC
import Derived.Test.YtfofmfkdkihhbadFromS
import Derived.Test.YtfofmfkdkihhbadFromI
import Derived.Test.YtfofmfkdkihhbadRadJ
import Derived.Test.YtfofmfkdkihhbadCopy
import Derived.Test.YtfofmfkdkihhbadOpen
namespace Go.Proofs.Ytfofmfkdkihhbad.fnPictureFrom
open Go.ChangeShapes Go.WideShapes Go.ChangeAt Go.RowKit

theorem impl_lit {b : Bool} {r : List Sp} {l : List Cn} {v : Value} {way : Int} {w : World} (hk : fromOk l way = b) (hr : fromR l way = r) (h : CReads w w.heap.size v l) : Calls Try.prog 32 #[v, .int .i64 way] w (Gives2' r b w) := by
  subst hk hr; exact implFrom_any l v way w h
theorem spec_lit {b : Bool} {r : List Sp} {l : List Cn} {v : Value} {way : Int} {w : World} (hk : fromOk l way = b) (hr : fromR l way = r) (h : CReads w w.heap.size v l) : Calls Try.prog 36 #[v, .int .i64 way] w (Gives2' r b w) := by
  subst hk hr; exact specFrom_any l v way w h
theorem rad_lit {ps : List Sp} {v : Value} {ax ay way r : Int} {w : World} (hk : radI ps (ax, ay) way = r) (h : Reads w w.heap.size v ps) : Calls Try.prog 11 #[v, .agg #[.int .i64 ax, .int .i64 ay], .int .i64 way] w (Gives (.int .i64 r) w) := by
  subst hk; exact implRadius_any ps v ax ay way w h
theorem rad_facts {l : List Cn} {way : Int} (h : fromOk l way = true) {c : Cn} (hc : c ∈ l) : ∃ r, radI (fromR l way) c.1 way = r ∧ decide (r < c.2) = false := by
  have k := from_radius h hc
  exact ⟨_, rad_yes k.1, decide_eq_false (by omega)⟩
set_option maxRecDepth 100000 in
set_option maxHeartbeats 3200000 in
theorem walk (A : Option Addr) (n c : Nat) (w : World) (hb : Bytes w w.heap.size A n) (hn : n ≤ c) (hc : c ≤ 9223372036854775807) :
    Calls Try.prog 9 #[.slice A n c] w (Gives (.bool true) w) := by
  by_cases hbig : 1048576 < n
  · go_enter Try.func9, Try.ntmps9
    go_wp2
    go_ret
    exact ⟨rfl, Below.refl _ _⟩
  · go_enter Try.func9, Try.ntmps9
    go_wp2_with fail
    refine (drawPictureFrom_any A n c _ hb hn hc).mono ?_
    rintro e w1 ⟨v, l, way, rfl, ol, hll, hway, bb⟩
    clear hb hn hc
    obtain ⟨Ap, cp, rfl, _, _⟩ := ol.reads.slice
    obtain ⟨ok, hk⟩ : ∃ b, fromOk l way = b := ⟨_, rfl⟩
    obtain ⟨s, hs⟩ : ∃ s, fromR l way = s := ⟨_, rfl⟩
    have HK := Lib.hid (And.intro hk hs)
    go_wp2_with fail
    refine (impl_lit HK.out.1 HK.out.2 ol.reads).mono ?_
    rintro e w2 ⟨vp, rfl, op, bn⟩
    have bb := below_step bb bn
    have ol := ol.below bn
    go_wp2_with fail
    refine (spec_lit HK.out.1 HK.out.2 ol.reads).mono ?_
    rintro e w3 ⟨vx, rfl, ox, bn⟩
    have bb := below_step bb bn
    have ol := ol.below bn
    have op := op.below bn
    go_wp2_with fail
    refine (gives_is (show decide (s = s) = true by simp) (sameSpots_any _ _ _ _ _ op.reads ox.reads)).mono ?_
    rintro e w4 ⟨rfl, bn⟩
    have bb := below_step bb bn
    have ol := ol.below bn
    have op := op.below bn
    clear ox bn
    rcases ok with _ | _
    · have e0 : s = [] := hs.symm.trans (from_no hk)
      subst e0
      obtain ⟨As, cs, rfl, _, _⟩ := op.reads.slice
      clear hk hs
      go_wp2_with fail
      refine (alive_any _).mono ?_
      rintro e w5 ⟨rfl, bn⟩
      go_wp2
      go_ret
      exact ⟨rfl, below_step bb bn⟩
    · have hE := from_empty hk
      rw [hs] at hE
      have HR : ∀ c ∈ l, ∃ r, radI s c.1 way = r ∧ decide (r < c.2) = false := fun c hc => by rw [← hs]; exact rad_facts hk hc
      have HR := Lib.hid HR
      have hpl : s.length ≤ 60 := by rw [← hs, (from_is hk).eq]; exact (picB_pic (from_is hk).pp).1
      clear hk
      have hlen : (l.length = 0) ↔ (s.length = 0) := by rw [List.length_eq_zero_iff, List.length_eq_zero_iff]; exact hE
      obtain ⟨Bp, dp, rfl, _, _⟩ := op.reads.slice
      clear hE hs
      go_wp2_with fail
      go_loopw [9] (fun i wr => ∃ k : Nat, k ≤ l.length ∧ i = .int .i64 k ∧ COwns wr w.heap.size (.slice Ap l.length cp) l ∧ Owns wr w1.heap.size (.slice Bp s.length dp) s ∧ Below w.heap.size w wr) (fun i _ => l.length - (intOf i).toNat)
      case atStart => exact ⟨0, Nat.zero_le _, rfl, ol, op, bb⟩
      case round =>
        clear ol op bb
        obtain ⟨k, hk, rfl, ol, op, bb⟩ := hrel
        by_cases hlt : k < l.length
        · obtain ⟨⟨⟨ax, ay⟩, ar⟩, hxy⟩ : ∃ a, l[k]? = some a := ⟨_, List.getElem?_eq_getElem hlt⟩
          obtain ⟨A', c', he, _, _, _, hr⟩ := ol.reads.is
          cases he
          obtain ⟨b', off', rfl, hb, hcell⟩ := hr (by omega)
          obtain ⟨a0, a1, a2⟩ := hcell k ax ay ar hxy
          obtain ⟨r, hr1, hr2⟩ := HR.out _ (List.mem_of_getElem? hxy)
          have H1 := Lib.hid hr1
          simp only at hr2
          clear hr1 hxy hr hcell
          have f0 := cell_regrown a0
          have f1 := cell_regrown a1
          have f2 := cell_regrown a2
          have hm1 : (0 : Int) ≤ (k : Int) := Int.natCast_nonneg _
          have hm2 : (k : Int) < (l.length : Int) := by omega
          have rp := op.reads
          go_wp2
          refine wp_region_quiet_below (by kernel_rfl) (by kernel_rfl) ?_
          repeat (go_big_quiet_step (first | (go_at_call 11; with_reducible exact gives_regrown (fun w1 hb1 => rad_lit H1.out (rp.kept hb1)) _ _)))
          refine wpQuiet_nil ?_
          intro w5 hw'
          obtain ⟨⟨dq, osq⟩, hw''⟩ := hw'
          have bn : Below wr.heap.size wr w5 := by rw [hw'']; exact below_regrown _ _ _
          clear hw'' dq osq
          have ol := ol.below bn
          have op := op.below bn
          have bb := below_step bb bn
          go_wp2
          go_roundw
          case rel => exact ⟨k + 1, by omega, by go_num, ol, op, bb⟩
          case measure => simp [intOf]; omega
        · obtain rfl : k = l.length := by omega
          by_cases h0 : l.length = 0
          · have e1 : ((l.length : Int) == 0) = true := by rw [beq_iff_eq]; omega
            have e2 : ((s.length : Int) == 0) = true := by rw [beq_iff_eq]; omega
            clear hlen h0
            go_wp2_with fail
            refine (alive_any _).mono ?_
            rintro e w5 ⟨rfl, bn⟩
            go_wp2
            go_ret
            exact ⟨rfl, below_step bb bn⟩
          · have e1 : ((l.length : Int) == 0) = false := by rw [beq_eq_false_iff_ne]; omega
            have e2 : ((s.length : Int) == 0) = false := by rw [beq_eq_false_iff_ne]; omega
            clear hlen h0
            go_wp2_with fail
            refine (alive_any _).mono ?_
            rintro e w5 ⟨rfl, bn⟩
            go_wp2
            go_ret
            exact ⟨rfl, below_step bb bn⟩
set_option maxRecDepth 100000 in
theorem lifted (os : Os) (started : os.Started) (H : Type) (enc : TypeId × Value → H) :
    ReturnsInHanded {} Try.checked os 9 .any (Rows.fnPictureFromSpec.pre6 enc Try.prog Try.f9 Rows.fnPictureFromRow.domain false) (Rows.fnPictureFromSpec.post enc Try.prog Try.f9 false true false false) := by
  refine returnsInHanded_of_change (C := Try.checked) own started (by kernel_rfl) Try.func9
    (ChangeSpec.witness6 (enc := enc) (C := Try.checked) false ⟨#[], #[.slice none 0 0], []⟩ 8 (by kernel_rfl) (by kernel_rfl) (by kernel_rfl) (by kernel_rfl)) ?_
  intro W base args ds gs before hval0 hW _ _
  have hval : ∀ (j : Nat) t v, Try.f9.params[j]? = some t → args[j]? = some v → Value.okWide Try.prog W .any base t v := hval0
  have hW' := hW
  obtain ⟨p, q, hA0, hV, rfl, _, _⟩ := hW
  have hA : DataW.TrodAll enc Try.prog W 0 (fun _ => true) true Try.f9.params.toList args.toList ds p := hA0
  rw [Try.params9] at hA hval
  obtain ⟨v0, d0, rfl, rfl, h0⟩ := trodAll_one hA
  obtain ⟨rfl, rfl⟩ := trodVars_none hV
  clear hA0 hval0
  simp only [List.append_nil] at hW'
  have hlt : ∀ x ∈ p, x.block < W.heap.size := fun x hx => by simpa using hW'.lt x hx
  have r0 := open_bytes (hval 0 22 v0 rfl rfl) h0 hlt
  obtain ⟨⟨bA, bn, bc⟩, rfl, rb, rn, rc⟩ := r0
  simp only at rb rn rc
  refine (walk bA bn bc W rb rn rc).mono fun e W' hg => ?_
  obtain ⟨he, hb⟩ := hg
  subst he
  exact ⟨_, rfl, _, _, _, [], p, [], hW', trodAll_mk1 (shut_bool Try.underlying4 _), trodAll_mk1 (kept_arg (by kernel_rfl) (of_decide_eq_true (by kernel_rfl)) h0 hb hlt), rfl, hb.frame _, fun h => by cases h⟩

theorem holds : Rows.FnPictureFromSaid :=
  OpenClaim.holds_of_wide 9 Try.f9 rfl rfl rfl rfl rfl rfl rfl ⟨rfl, rfl, rfl, rfl, rfl⟩ rfl rfl rfl rfl rfl (by kernel_rfl) Try.func9 (by kernel_rfl)
    (of_decide_eq_true (by kernel_rfl)) (by unfold Func.isWrapper; first | (rw [if_pos (by decide +kernel)]; kernel_rfl) | (rw [if_neg (by decide +kernel)]; exact ⟨rfl, rfl⟩))
    (fun os started H enc _ => lifted os started H enc)
end Go.Proofs.Ytfofmfkdkihhbad.fnPictureFrom
