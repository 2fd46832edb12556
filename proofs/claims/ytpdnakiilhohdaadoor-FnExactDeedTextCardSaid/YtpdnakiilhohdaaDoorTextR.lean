/- Rows of signs told shorter, and longer again; how many signs rows have; rows of what is moved. Plain; no program is named. No conditions but those that stand in each theorem. -/
import Derived.Test.YtpdnakiilhohdaaDoorTextP
namespace Go.Proofs.YtpdnakiilhohdaaDoor

/-! ### shorter rows -/
def isSign (b : UInt8) : Bool := decide (b = 35 ∨ b = 46)
def rowOk (l : Bs) : Bool := decide (1 ≤ l.length ∧ l.length ≤ 61) && l.all isSign
def emit (n : Nat) (b : UInt8) : Bs := (if 1 < n then natB n else []) ++ [b]
def encF : Nat → Bs → Bs
  | _, [] => []
  | t, [b] => emit (t + 1) b
  | t, b :: c :: l => if c = b then encF (t + 1) (c :: l) else emit (t + 1) b ++ encF 0 (c :: l)
def shortR (l : Bs) : Bs := if rowOk l then encF 0 l else []
theorem shortR_no {l : Bs} (h : rowOk l = false) : shortR l = [] := by unfold shortR; rw [h]; rfl
theorem shortR_yes {l : Bs} (h : rowOk l = true) : shortR l = encF 0 l := by unfold shortR; rw [h]; rfl
theorem rowOk_is {l : Bs} : rowOk l = true ↔ (1 ≤ l.length ∧ l.length ≤ 61) ∧ ∀ b ∈ l, isSign b = true := by
  unfold rowOk
  rw [Bool.and_eq_true, decide_eq_true_eq, List.all_eq_true]
theorem emit_length {n : Nat} {b : UInt8} (h0 : 1 ≤ n) (h : n ≤ 61) : (emit n b).length ≤ n := by
  unfold emit
  split
  · rename_i h1
    rw [List.length_append]
    by_cases h2 : n < 10
    · rw [natB_small h2]; simp; omega
    · have := natB_length 1 n (by omega)
      simp; omega
  · simp; omega
theorem emit_ne (n : Nat) (b : UInt8) : emit n b ≠ [] := by unfold emit; simp
theorem encF_length : ∀ {l : Bs} {t : Nat}, t + l.length ≤ 61 → (encF t l).length ≤ t + l.length
  | [], t, _ => by simp [encF]
  | [b], t, h => by
    rw [encF]
    have := emit_length (n := t + 1) (b := b) (by omega) (by simpa using h)
    simpa using this
  | b :: c :: l, t, h => by
    simp only [List.length_cons] at h
    rw [encF]
    split
    · have := encF_length (l := c :: l) (t := t + 1) (by simp only [List.length_cons]; omega)
      simp only [List.length_cons] at this ⊢
      omega
    · have h1 := emit_length (n := t + 1) (b := b) (by omega) (by omega)
      have h2 := encF_length (l := c :: l) (t := 0) (by simp only [List.length_cons]; omega)
      rw [List.length_append]
      simp only [List.length_cons] at h2 ⊢
      omega
theorem encF_ne : ∀ {l : Bs} {t : Nat}, l ≠ [] → encF t l ≠ []
  | [], _, h => absurd rfl h
  | [b], t, _ => by rw [encF]; exact emit_ne _ _
  | b :: c :: l, t, _ => by
    rw [encF]
    split
    · exact encF_ne (by simp)
    · simp [emit_ne]

/-! ### and longer again: d the digits before -/
def cntD (d : Bs) : Nat := if d = [] then 1 else (digR d).1.toNat
def okD (d : Bs) : Bool := decide (d = []) || ((digR d).2 && decide (2 ≤ (digR d).1 ∧ (digR d).1 ≤ 61))
def decS : Bs → Bs → Bs
  | _, [] => []
  | d, b :: l => if isSign b then List.replicate (cntD d) b ++ decS [] l else decS (d ++ [b]) l
def goodS : Bs → Bs → Bool
  | _, [] => true
  | d, b :: l => if isSign b then okD d && goodS [] l else goodS (d ++ [b]) l
theorem decS_skip : ∀ {m : Bs} (d r : Bs), (∀ b ∈ m, isSign b = false) → decS d (m ++ r) = decS (d ++ m) r ∧ goodS d (m ++ r) = goodS (d ++ m) r
  | [], d, r, _ => by simp
  | b :: m, d, r, h => by
    have hb := h b (List.mem_cons_self ..)
    obtain ⟨h1, h2⟩ := decS_skip (m := m) (d ++ [b]) r fun c hc => h c (List.mem_cons_of_mem _ hc)
    rw [List.cons_append, decS, goodS, hb]
    simp only [Bool.false_eq_true, if_false]
    rw [h1, h2, List.append_assoc]
    exact ⟨rfl, rfl⟩
theorem dig_noSign {b : UInt8} (h : isDig b = true) : isSign b = false := by
  unfold isDig at h
  have := of_decide_eq_true h
  refine decide_eq_false ?_
  rintro (rfl | rfl)
  · exact absurd this (by decide)
  · exact absurd this (by decide)
theorem decS_emit {n : Nat} {b : UInt8} (h0 : 1 ≤ n) (h : n ≤ 61) (hb : isSign b = true) (r : Bs) : decS [] (emit n b ++ r) = List.replicate n b ++ decS [] r ∧ goodS [] (emit n b ++ r) = goodS [] r := by
  unfold emit
  split
  · rename_i h1
    obtain ⟨e1, e2⟩ := decS_skip (m := natB n) [] ([b] ++ r) fun c hc => dig_noSign (natB_digits n c hc)
    have hd := digR_natB (n := n) (by omega)
    rw [List.append_assoc, e1, e2]
    show decS ([] ++ natB n) (b :: r) = _ ∧ goodS ([] ++ natB n) (b :: r) = _
    rw [List.nil_append, decS, goodS, hb]
    simp only [if_true]
    have c1 : cntD (natB n) = n := by unfold cntD; rw [if_neg (natB_ne n), hd]; simp
    have c2 : okD (natB n) = true := by
      unfold okD
      rw [hd, Bool.or_eq_true, Bool.and_eq_true, decide_eq_true_eq, decide_eq_true_eq]
      exact .inr ⟨rfl, by simp only []; omega⟩
    rw [c1, c2]
    exact ⟨rfl, rfl⟩
  · obtain rfl : n = 1 := by omega
    show decS [] (b :: r) = _ ∧ goodS [] (b :: r) = _
    rw [decS, goodS, hb]
    exact ⟨rfl, rfl⟩
theorem decS_encF : ∀ {l : Bs} {t : Nat} {b : UInt8}, l.head? = some b → t + l.length ≤ 61 → (∀ c ∈ l, isSign c = true) → decS [] (encF t l) = List.replicate t b ++ l ∧ goodS [] (encF t l) = true
  | [], _, _, h, _, _ => by cases h
  | [a], t, b, h, hl, hs => by
    obtain rfl : a = b := by simpa using h
    rw [encF]
    obtain ⟨h1, h2⟩ := decS_emit (n := t + 1) (b := a) (by omega) (by simpa using hl) (hs a (by simp)) []
    rw [List.append_nil] at h1 h2
    rw [h1, h2, List.replicate_succ', List.append_assoc]
    exact ⟨rfl, rfl⟩
  | a :: c :: l, t, b, h, hl, hs => by
    obtain rfl : a = b := by simpa using h
    simp only [List.length_cons] at hl
    have hs' : ∀ d ∈ c :: l, isSign d = true := fun d hd => hs d (List.mem_cons_of_mem _ hd)
    rw [encF]
    split
    · rename_i e
      subst e
      obtain ⟨h1, h2⟩ := decS_encF (l := c :: l) (t := t + 1) (b := c) rfl (by simp only [List.length_cons]; omega) hs'
      rw [h1, h2, List.replicate_succ', List.append_assoc]
      exact ⟨rfl, rfl⟩
    · obtain ⟨h1, h2⟩ := decS_emit (n := t + 1) (b := a) (by omega) (by omega) (hs a (by simp)) (encF 0 (c :: l))
      obtain ⟨h3, h4⟩ := decS_encF (l := c :: l) (t := 0) (b := c) rfl (by simp only [List.length_cons]; omega) hs'
      rw [h1, h2, h3, h4, List.replicate_succ', List.append_assoc]
      exact ⟨rfl, rfl⟩
theorem dec_short {l : Bs} (h : rowOk l = true) : decS [] (shortR l) = l ∧ goodS [] (shortR l) = true := by
  obtain ⟨⟨h1, h2⟩, h3⟩ := rowOk_is.1 h
  rw [shortR_yes h]
  cases l with
  | nil => simp at h1
  | cons b l => exact decS_encF (t := 0) rfl (by simpa using h2) h3
theorem shortR_ne {l : Bs} (h : rowOk l = true) : shortR l ≠ [] := by
  rw [shortR_yes h]
  refine encF_ne fun e => ?_
  have := (rowOk_is.1 h).1.1
  rw [e] at this; simp at this
theorem shortR_length {l : Bs} (h : rowOk l = true) : (shortR l).length ≤ l.length := by
  rw [shortR_yes h]
  have := encF_length (l := l) (t := 0) (by have := (rowOk_is.1 h).1.2; omega)
  omega
theorem shortR_inj {l m : Bs} (hl : rowOk l = true) (hm : rowOk m = true) (e : shortR l = shortR m) : l = m := by
  rw [← (dec_short hl).1, e, (dec_short hm).1]
open Classical in
noncomputable def longR (s : Bs) : Bs := if h : ∃ l, rowOk l = true ∧ shortR l = s then h.choose else []
open Classical in
noncomputable def longOk (s : Bs) : Bool := decide (∃ l, rowOk l = true ∧ shortR l = s)
open Classical in
theorem long_yes {l s : Bs} (h : rowOk l = true) (e : shortR l = s) : longR s = l ∧ longOk s = true := by
  have hx : ∃ l, rowOk l = true ∧ shortR l = s := ⟨l, h, e⟩
  refine ⟨?_, decide_eq_true hx⟩
  unfold longR
  rw [dif_pos hx]
  exact shortR_inj hx.choose_spec.1 h (hx.choose_spec.2.trans e.symm)
open Classical in
theorem long_no {s : Bs} (h : ∀ l, rowOk l = true → shortR l ≠ s) : longR s = [] ∧ longOk s = false := by
  have hx : ¬ ∃ l, rowOk l = true ∧ shortR l = s := fun ⟨l, h1, h2⟩ => h l h1 h2
  refine ⟨?_, decide_eq_false hx⟩
  unfold longR
  rw [dif_neg hx]
open Classical in
theorem long_ok {s : Bs} (h : longOk s = true) : rowOk (longR s) = true ∧ shortR (longR s) = s := by
  have hx : ∃ l, rowOk l = true ∧ shortR l = s := of_decide_eq_true h
  unfold longR
  rw [dif_pos hx]
  exact hx.choose_spec
open Classical in
theorem long_fail {s : Bs} (h : longOk s = false) : longR s = [] ∧ ∀ l, rowOk l = true → shortR l ≠ s := by
  have hx : ¬ ∃ l, rowOk l = true ∧ shortR l = s := of_decide_eq_false h
  unfold longR
  rw [dif_neg hx]
  exact ⟨rfl, fun l h1 h2 => hx ⟨l, h1, h2⟩⟩

/-! ### signs counted -/
def hashes (l : Bs) : Nat := (l.filter fun b => decide (b = 35)).length
theorem hashes_scan (y : Int) : ∀ (l : Bs) (x : Int), (scanRow x y l).length = hashes l
  | [], _ => rfl
  | b :: l, x => by
    have ih := hashes_scan y l (x + 1)
    rw [scanRow, List.length_append, ih]
    unfold hashes
    by_cases h : b = 35
    · rw [if_pos h, List.filter_cons_of_pos (by simp [h])]; simp; omega
    · rw [if_neg h, List.filter_cons_of_neg (by simp [h])]; simp
theorem hashes_snoc (l : Bs) (b : UInt8) : hashes (l ++ [b]) = hashes l + (if b = 35 then 1 else 0) := by
  unfold hashes
  rw [List.filter_append, List.length_append]
  by_cases h : b = 35 <;> simp [h]
theorem hashes_le (l : Bs) : hashes l ≤ l.length := List.length_filter_le _ _
def hashesAll (r : List Bs) : Nat := (r.map hashes).sum
theorem hashesAll_scan : ∀ (r : List Bs) (x y : Int), (scanRows x y r).length = hashesAll r
  | [], _, _ => rfl
  | l :: r, x, y => by
    have ih := hashesAll_scan r x (y - 1)
    rw [scanRows, List.length_append, ih, hashes_scan]; rfl
theorem hashes_all {p : List Sp} (h : picB p = true) (h0 : p ≠ []) : hashesAll (rowsT p) = p.length := by
  rw [← scan_length h h0, hashesAll_scan]
theorem hashes_pos {p : List Sp} {x y : Int} {n : Nat} {a : Sp} (ha : a ∈ p) (hy : a.2 = y) (h1 : x ≤ a.1) (h2 : a.1 < x + (n : Int)) : 0 < hashes (txtRow p x y n) := by
  rw [← hashes_scan y _ x]
  refine List.length_pos_of_mem (a := a) (mem_scanRow.2 ⟨hy, (a.1 - x).toNat, by omega, ?_⟩)
  rw [txtRow_at p x y (by omega)]
  have e : ((x + ((a.1 - x).toNat : Int), y) : Sp) = a := Prod.ext (by show _ = a.1; omega) hy.symm
  rw [e, decide_eq_true ha]; rfl
/-- the rows of a picture: how many, how long, and the first and the last one -/
structure RowsAre (p : List Sp) (r : List Bs) : Prop where
  many : (r.length : Int) = (boxL p).2.2 - (boxL p).1.2 + 1
  long : ∀ (k : Nat) (l : Bs), r[k]? = some l → (l.length : Int) = (boxL p).2.1 - (boxL p).1.1 + 1
  ends : ∀ (k : Nat) (l : Bs), r[k]? = some l → k = 0 ∨ k + 1 = r.length → 0 < hashes l
  all : hashesAll r = p.length
theorem rows_are {p : List Sp} (h : picB p = true) (h0 : p ≠ []) : RowsAre p (rowsT p) := by
  obtain ⟨b1, b2⟩ := box_in h h0
  have s1 := span_eq (a := (boxL p).1.1) (b := (boxL p).2.1) (by omega)
  have s2 := span_eq (a := (boxL p).1.2) (b := (boxL p).2.2) (by omega)
  have hb := isBox_boxL h0
  have at_ : ∀ (k : Nat) (l : Bs), (rowsT p)[k]? = some l → k < span (boxL p).1.2 (boxL p).2.2 ∧ l = txtRow p (boxL p).1.1 ((boxL p).2.2 - (k : Int)) (span (boxL p).1.1 (boxL p).2.1) := fun k l hl => by
    rw [rowsT_yes h h0] at hl
    have hk := (List.getElem?_eq_some_iff.1 hl).1
    rw [txtRows_length] at hk
    unfold txtRows at hl
    rw [List.getElem?_map, List.getElem?_range hk] at hl
    exact ⟨hk, (Option.some.inj hl).symm⟩
  refine ⟨?_, fun k l hl => ?_, fun k l hl hk => ?_, hashes_all h h0⟩
  · rw [rowsT_yes h h0, txtRows_length]; omega
  · obtain ⟨_, rfl⟩ := at_ k l hl
    rw [txtRow_length]; omega
  · obtain ⟨hk2, rfl⟩ := at_ k l hl
    rw [rowsT_yes h h0, txtRows_length] at hk
    rcases hk with rfl | hk
    · obtain ⟨a, ha, e⟩ := hb.hy
      have := hb.all a ha
      exact hashes_pos ha (by rw [e]; simp) (by omega) (by omega)
    · obtain ⟨a, ha, e⟩ := hb.ly
      have := hb.all a ha
      exact hashes_pos ha (by rw [e]; omega) (by omega) (by omega)
/-- what is moved to the right has the same rows -/
theorem rows_moved {p q : List Sp} {d : Int} (hp : picB p = true) (hq : picB q = true) (e : q = p.map fun a => (a.1 + d, a.2)) : rowsT q = rowsT p := by
  by_cases h0 : p = []
  · subst h0; subst e; rfl
  · have q0 : q ≠ [] := by rw [e]; simpa using h0
    have hb := isBox_boxL h0
    have hm : ∀ x y : Int, ((x + d, y) : Sp) ∈ q ↔ (x, y) ∈ p := fun x y => by
      rw [e, List.mem_map]
      constructor
      · rintro ⟨a, ha, k⟩
        have k1 := (Prod.mk.inj k).1
        have k2 := (Prod.mk.inj k).2
        have : a = (x, y) := Prod.ext (by show a.1 = x; omega) k2
        rw [← this]; exact ha
      · intro h; exact ⟨_, h, rfl⟩
    have hbq : IsBox q ((boxL p).1.1 + d, (boxL p).1.2) ((boxL p).2.1 + d, (boxL p).2.2) := by
      refine ⟨fun a ha => ?_, ?_, ?_, ?_, ?_⟩
      · rw [e, List.mem_map] at ha
        obtain ⟨c, hc, rfl⟩ := ha
        have := hb.all c hc
        simp only []; omega
      · obtain ⟨a, ha, k⟩ := hb.lx
        exact ⟨(a.1 + d, a.2), (hm a.1 a.2).2 ha, by simp only []; omega⟩
      · obtain ⟨a, ha, k⟩ := hb.ly
        exact ⟨(a.1 + d, a.2), (hm a.1 a.2).2 ha, k⟩
      · obtain ⟨a, ha, k⟩ := hb.hx
        exact ⟨(a.1 + d, a.2), (hm a.1 a.2).2 ha, by simp only []; omega⟩
      · obtain ⟨a, ha, k⟩ := hb.hy
        exact ⟨(a.1 + d, a.2), (hm a.1 a.2).2 ha, k⟩
    obtain ⟨k1, k2⟩ := (isBox_boxL q0).one hbq
    rw [rowsT_yes hq q0, rowsT_yes hp h0, k1, k2]
    have s1 : span ((boxL p).1.1 + d) ((boxL p).2.1 + d) = span (boxL p).1.1 (boxL p).2.1 := by unfold span; congr 1; omega
    simp only []
    rw [s1]
    unfold txtRows
    refine List.map_congr_left fun j _ => ?_
    unfold txtRow
    refine List.map_congr_left fun i _ => ?_
    congr 1
    have := hm ((boxL p).1.1 + (i : Int)) ((boxL p).2.2 - (j : Int))
    have ea : (boxL p).1.1 + d + (i : Int) = (boxL p).1.1 + (i : Int) + d := by omega
    rw [ea, Bool.eq_iff_iff, decide_eq_true_eq, decide_eq_true_eq]
    exact this
/-- a text with a slash behind it is none -/
theorem no_slash (s : Bs) : ∀ p, picB p = true → textT p ≠ s ++ [47] := fun p hp e => by
  have hlast : (textT p).getLast? = some 47 := by rw [e]; simp
  by_cases h0 : p = []
  · subst h0; exact absurd hlast (by decide)
  · have hr := rowsT_ne hp h0
    have hne : ∀ l ∈ rowsT p, l ≠ [] := fun l hl k => by
      obtain ⟨i, hi⟩ := List.getElem?_of_mem hl
      have := (rows_are hp h0).long i l hi
      obtain ⟨b1, _⟩ := box_in hp h0
      rw [k] at this; simp at this; omega
    have key : ∀ r : List Bs, r ≠ [] → (∀ l ∈ r, l ≠ [] ∧ ∀ b ∈ l, b = 35 ∨ b = 46) → ∃ b, (joinB 47 r).getLast? = some b ∧ (b = 35 ∨ b = 46) := fun r => by
      induction r with
      | nil => intro h; exact absurd rfl h
      | cons l r ih =>
        intro _ h
        cases r with
        | nil =>
          obtain ⟨h1, h2⟩ := h l (by simp)
          refine ⟨l.getLast h1, List.getLast?_eq_some_getLast h1, h2 _ (List.getLast_mem h1)⟩
        | cons m r =>
          obtain ⟨b, hb, hs⟩ := ih (by simp) fun k hk => h k (List.mem_cons_of_mem _ hk)
          refine ⟨b, ?_, hs⟩
          rw [joinB_cons 47 l (by simp), List.getLast?_append, List.getLast?_cons, hb]; rfl
    obtain ⟨b, hb, hs⟩ := key (rowsT p) hr fun l hl => ⟨hne l hl, rowsT_sign hl⟩
    rw [textT_yes hp h0, List.getLast?_append, List.getLast?_cons, List.getLast?_append, List.getLast?_cons, hb] at hlast
    simp at hlast
    rcases hs with rfl | rfl <;> exact absurd hlast (by decide)
end Go.Proofs.YtpdnakiilhohdaaDoor
