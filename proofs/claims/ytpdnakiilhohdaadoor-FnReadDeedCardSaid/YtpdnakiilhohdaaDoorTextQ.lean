/- Texts as the program's ways meet them: parts up to a sign, runs, numbers read and written, rows from the lowest one up. Plain; no program is named. No conditions but those that stand in each theorem. -/
import Derived.Test.YtpdnakiilhohdaaDoorTextR
import Derived.Lib.SlTrimSet
import Derived.Lib.AtoiAll
import Derived.Lib.ItoaNum
import Derived.Lib.Join
import Derived.Lib.Repeat
import Derived.Lib.IndexAny
namespace Go.Proofs.YtpdnakiilhohdaaDoor

/-! ### what stands ahead of a sign -/
theorem signs_contains (b : UInt8) : ([35, 46] : Bs).contains b = isSign b := by
  unfold isSign
  rw [Bool.eq_iff_iff, List.contains_iff_mem, decide_eq_true_eq]
  simp
/-- a part ahead of a sign and this sign, or all that is left -/
def Cut1 (r part sign rest : Bs) : Prop := (sign = [] ∧ part = r ∧ rest = []) ∨ ∃ b, sign = [b] ∧ r = part ++ b :: rest
def Cut2 (cs r part sign rest : Bs) : Prop := (sign = [] ∧ part = r ∧ rest = [] ∧ ∀ b ∈ r, cs.contains b = false) ∨ ∃ b, sign = [b] ∧ r = part ++ b :: rest ∧ cs.contains b = true ∧ ∀ b ∈ part, cs.contains b = false
theorem Cut2.weak {cs r part sign rest : Bs} (h : Cut2 cs r part sign rest) : Cut1 r part sign rest := by
  rcases h with ⟨h1, h2, h3, _⟩ | ⟨b, h1, h2, _, _⟩
  · exact .inl ⟨h1, h2, h3⟩
  · exact .inr ⟨b, h1, h2⟩
theorem indexAny_cases (cs : Bs) : ∀ s : Bs, (Lib.indexAny s cs = -1 ∧ ∀ b ∈ s, cs.contains b = false) ∨ ∃ p b t, s = p ++ b :: t ∧ Lib.indexAny s cs = (p.length : Int) ∧ cs.contains b = true ∧ ∀ b ∈ p, cs.contains b = false
  | [] => .inl ⟨rfl, fun b h => by cases h⟩
  | a :: l => by
    rw [Lib.indexAny]
    by_cases h : cs.contains a = true
    · exact .inr ⟨[], a, l, rfl, by rw [if_pos h]; rfl, h, fun b h => by cases h⟩
    · rw [if_neg h]
      rcases indexAny_cases cs l with ⟨h1, h2⟩ | ⟨p, b, t, h1, h2, h3, h4⟩
      · refine .inl ⟨by rw [h1]; rfl, fun b hb => ?_⟩
        rcases List.mem_cons.1 hb with rfl | hb
        · simpa using h
        · exact h2 b hb
      · refine .inr ⟨a :: p, b, t, by rw [h1]; rfl, ?_, h3, fun b hb => ?_⟩
        · rw [if_neg (by rw [h2]; intro e; have := beq_iff_eq.1 e; omega), h2]; simp
        · rcases List.mem_cons.1 hb with rfl | hb
          · simpa using h
          · exact h4 b hb
theorem cut_one {c : UInt8} : ∀ {p q t u : Bs}, p ++ c :: t = q ++ c :: u → c ∉ p → c ∉ q → p = q ∧ t = u
  | [], [], t, u, h, _, _ => ⟨rfl, by simpa using h⟩
  | [], b :: q, t, u, h, _, hq => by
    have := (List.cons.inj h).1
    exact absurd (by rw [this]; exact List.mem_cons_self ..) hq
  | a :: p, [], t, u, h, hp, _ => by
    have := (List.cons.inj h).1
    exact absurd (by rw [this]; exact List.mem_cons_self ..) hp
  | a :: p, b :: q, t, u, h, hp, hq => by
    obtain ⟨h1, h2⟩ := List.cons.inj h
    obtain ⟨h3, h4⟩ := cut_one h2 (fun k => hp (List.mem_cons_of_mem _ k)) (fun k => hq (List.mem_cons_of_mem _ k))
    exact ⟨by rw [h1, h3], h4⟩
theorem Cut2.one {c : UInt8} {r part sign rest p t : Bs} (h : Cut2 [c] r part sign rest) (e : r = p ++ c :: t) (hp : c ∉ p) : part = p ∧ sign = [c] ∧ rest = t := by
  have hc : ∀ b : UInt8, ([c] : Bs).contains b = true ↔ b = c := fun b => by rw [List.contains_iff_mem, List.mem_singleton]
  rcases h with ⟨_, _, _, h4⟩ | ⟨b, h1, h2, h3, h4⟩
  · have := h4 c (by rw [e]; simp)
    rw [(hc c).2 rfl] at this; cases this
  · obtain rfl := (hc b).1 h3
    rw [h2] at e
    obtain ⟨k1, k2⟩ := cut_one e (fun k => by have := h4 _ k; rw [(hc b).2 rfl] at this; cases this) hp
    exact ⟨k1, h1, k2⟩
/-- rows between slashes, one after the other -/
theorem Cut2.rows {c : UInt8} {r part sign rest : Bs} (h : Cut2 [c] r part sign rest) : (sign = [] ∧ cutB c r = [part]) ∨ (sign = [c] ∧ cutB c r = part :: cutB c rest) := by
  have hc : ∀ b : UInt8, ([c] : Bs).contains b = true ↔ b = c := fun b => by rw [List.contains_iff_mem, List.mem_singleton]
  rcases h with ⟨h1, h2, _, h4⟩ | ⟨b, h1, h2, h3, h4⟩
  · refine .inl ⟨h1, ?_⟩
    rw [h2]
    exact cutB_none fun k => by have := h4 _ k; rw [(hc c).2 rfl] at this; cases this
  · obtain rfl := (hc b).1 h3
    refine .inr ⟨h1, ?_⟩
    rw [h2]
    exact cutB_app _ fun k => by have := h4 _ k; rw [(hc b).2 rfl] at this; cases this

/-! ### numbers -/
theorem decDigits_is : ∀ n : Nat, Lib.decDigits n = natB n := fun n => by
  induction n using Nat.strongRecOn with
  | _ n ih =>
    rw [Lib.decDigits, natB]
    split
    · rfl
    · rw [ih (n / 10) (by omega)]; rfl
theorem itoa_is (n : Int) : Lib.itoa n = numB n := by
  unfold Lib.itoa numB
  rw [decDigits_is, decDigits_is]
theorem parse_valD : ∀ {l : Bs} {a v : Nat}, valD l a = some v → v < 10 ^ 18 → Lib.parseUint10 a l = .ok v
  | [], a, v, h, _ => by
    have : a = v := by simpa [valD] using h
    rw [Lib.parseUint10, this]
  | b :: l, a, v, h, hv => by
    rw [valD] at h
    split at h
    · rename_i hd
      have hd := of_decide_eq_true hd
      have hle : ∀ {l : Bs} {a v : Nat}, valD l a = some v → a ≤ v := fun {l} => by
        induction l with
        | nil => intro a v h; have : a = v := by simpa [valD] using h
                 omega
        | cons b l ih =>
          intro a v h
          rw [valD] at h
          split at h
          · have := ih h; omega
          · cases h
      have h1 := hle h
      have e18 : (10 : Nat) ^ 18 = 1000000000000000000 := by decide
      rw [e18] at hv
      rw [Lib.parseUint10, if_pos hd, if_neg (by omega), if_neg (by omega), Nat.mul_comm a 10]
      exact parse_valD h (by omega)
    · cases h
theorem atoi_natB {n : Nat} (h : n < 10 ^ 9) : Lib.atoiAll (natB n) = .ok (n : Int) := by
  have e9 : (10 : Nat) ^ 9 = 1000000000 := by decide
  rw [e9] at h
  have hp : Lib.parseMag (natB n) = .ok n := by
    unfold Lib.parseMag
    rw [if_neg (natB_ne n)]
    exact parse_valD (valD_natB n) (by omega)
  cases e : natB n with
  | nil => exact absurd e (natB_ne n)
  | cons b l =>
    have hb := of_decide_eq_true (natB_digits n b (by rw [e]; exact List.mem_cons_self ..))
    unfold Lib.atoiAll
    dsimp only
    rw [if_neg (by omega), ← e, hp]
    dsimp only
    rw [if_neg (by omega), if_neg (by omega), if_neg (by omega)]
theorem atoi_numB {n : Int} (h : -10 ^ 9 < n ∧ n < 10 ^ 9) : Lib.atoiAll (numB n) = .ok n := by
  unfold numB
  split
  · have e9 : (10 : Nat) ^ 9 = 1000000000 := by decide
    have hp : Lib.parseMag (natB n.natAbs) = .ok n.natAbs := by
      unfold Lib.parseMag
      rw [if_neg (natB_ne _)]
      exact parse_valD (valD_natB _) (by omega)
    have h45 : (45 : UInt8).toNat = 45 := rfl
    unfold Lib.atoiAll
    dsimp only
    rw [if_pos (Or.inr h45), hp]
    dsimp only
    rw [if_neg (by omega), if_neg (by omega), if_pos h45]
    congr 1
    omega
  · rw [atoi_natB (by omega)]
    congr 1
    omega
theorem join_is (r : List Bs) (c : UInt8) : Lib.join r [c] = joinB c r := by
  induction r with
  | nil => rfl
  | cons l r ih =>
    cases r with
    | nil => rw [Lib.join_one]; rfl
    | cons m r =>
      rw [Lib.join_cons, joinB_cons c l (by simp), ← ih, Lib.join_cons]
      simp [Lib.joinTail]
theorem repeat_is (b : UInt8) : ∀ n : Nat, Lib.repeatL [b] n = List.replicate n b
  | 0 => rfl
  | n + 1 => by rw [Lib.repeatL, repeat_is b n, List.replicate_succ]; rfl

/-! ### runs -/
theorem dropW_nil {α : Type} {p : α → Bool} : ∀ {l : List α}, l.dropWhile p = [] ↔ ∀ x ∈ l, p x = true
  | [] => by simp
  | a :: l => by
    rw [List.dropWhile_cons]
    by_cases h : p a = true
    · rw [if_pos h, dropW_nil (l := l)]; simp [h]
    · rw [if_neg h]; simp [h]
theorem dropW_split {α : Type} (p : α → Bool) : ∀ l : List α, ∃ k, l = k ++ l.dropWhile p ∧ (∀ x ∈ k, p x = true) ∧ ∀ y t, l.dropWhile p = y :: t → p y = false
  | [] => ⟨[], rfl, by simp, by simp⟩
  | a :: l => by
    rw [List.dropWhile_cons]
    by_cases h : p a = true
    · obtain ⟨k, h1, h2, h3⟩ := dropW_split p l
      rw [if_pos h]
      refine ⟨a :: k, by rw [List.cons_append, ← h1], fun x hx => ?_, h3⟩
      rcases List.mem_cons.1 hx with rfl | hx
      · exact h
      · exact h2 x hx
    · rw [if_neg h]
      refine ⟨[], rfl, by simp, fun y t e => ?_⟩
      have := (List.cons.inj e).1
      subst this; simpa using h
theorem trim_nil (l : Bs) : Lib.trimS l [35, 46] = [] ↔ l.all isSign = true := by
  rw [List.all_eq_true]
  unfold Lib.trimS Lib.trimLeftS Lib.trimRightS
  have hf : (fun b : UInt8 => ([35, 46] : Bs).contains b) = isSign := funext signs_contains
  rw [hf, dropW_nil]
  constructor
  · intro h
    obtain ⟨k, h1, h2, h3⟩ := dropW_split isSign l.reverse
    cases e : l.reverse.dropWhile isSign with
    | nil => rw [dropW_nil] at e; exact fun x hx => e x (List.mem_reverse.2 hx)
    | cons y t =>
      have h4 := h y (by rw [e]; simp)
      rw [h3 y t e] at h4; cases h4
  · intro h x hx
    rw [List.mem_reverse] at hx
    exact h x (List.mem_reverse.1 ((List.dropWhile_sublist _).mem hx))
theorem rowOk_trim (l : Bs) : rowOk l = (decide (1 ≤ l.length) && (decide (l.length ≤ 61) && decide (Lib.trimS l [35, 46] = []))) := by
  rw [Bool.eq_iff_iff, rowOk_is]
  have h := trim_nil l
  rw [List.all_eq_true] at h
  simp only [Bool.and_eq_true, decide_eq_true_eq]
  rw [h]
  constructor
  · rintro ⟨⟨h1, h2⟩, h3⟩; exact ⟨h1, h2, h3⟩
  · rintro ⟨h1, h2, h3⟩; exact ⟨⟨h1, h2⟩, h3⟩
theorem trimLeft_le (l : Bs) (b : UInt8) : (Lib.trimLeftB l b).length ≤ l.length := by
  unfold Lib.trimLeftB
  exact (List.dropWhile_sublist _).length_le
/-- the first run is told, then what is behind it -/
theorem encF_run : ∀ (l : Bs) (t : Nat) (b : UInt8), encF t (b :: l) = emit (t + 1 + (l.length - (Lib.trimLeftB l b).length)) b ++ encF 0 (Lib.trimLeftB l b)
  | [], t, b => by simp [encF, Lib.trimLeftB]
  | c :: l, t, b => by
    rw [encF]
    by_cases h : c = b
    · subst h
      have e : Lib.trimLeftB (c :: l) c = Lib.trimLeftB l c := by unfold Lib.trimLeftB; rw [List.dropWhile_cons, if_pos (by simp)]
      have hl := trimLeft_le l c
      rw [if_pos rfl, encF_run l (t + 1) c, e]
      congr 2
      simp only [List.length_cons]; omega
    · have e : Lib.trimLeftB (c :: l) b = c :: l := by unfold Lib.trimLeftB; rw [List.dropWhile_cons, if_neg (by simpa using h)]
      rw [if_neg h, e]
      simp
theorem run_split (l : Bs) (b : UInt8) : b :: l = List.replicate (1 + (l.length - (Lib.trimLeftB l b).length)) b ++ Lib.trimLeftB l b := by
  obtain ⟨k, h1, h2, _⟩ := dropW_split (fun x : UInt8 => x == b) l
  have h3 : k = List.replicate k.length b := List.eq_replicate_iff.2 ⟨rfl, fun x hx => by simpa using h2 x hx⟩
  have h4 : l.length - (Lib.trimLeftB l b).length = k.length := by
    have := congrArg List.length h1
    rw [List.length_append] at this
    unfold Lib.trimLeftB
    omega
  rw [h4, Nat.add_comm, List.replicate_succ, ← h3]
  unfold Lib.trimLeftB
  rw [List.cons_append, ← h1]
theorem trimLeft_cons (l : Bs) (b : UInt8) : Lib.trimLeftB (b :: l) b = Lib.trimLeftB l b := by unfold Lib.trimLeftB; rw [List.dropWhile_cons, if_pos (by simp)]

/-! ### rows from the lowest one up -/
def scanUp (x y : Int) : List Bs → List Sp
  | [] => []
  | r :: rs => scanRow x y r ++ scanUp x (y + 1) rs
theorem scanUp_append : ∀ (r s : List Bs) (x y : Int), scanUp x y (r ++ s) = scanUp x y r ++ scanUp x (y + (r.length : Int)) s
  | [], s, x, y => by simp [scanUp]
  | a :: r, s, x, y => by
    rw [List.cons_append, scanUp, scanUp, scanUp_append r s, List.append_assoc]
    congr 3
    simp; omega
theorem mem_scanUp {a : Sp} : ∀ {r : List Bs} {x y : Int}, a ∈ scanUp x y r.reverse ↔ a ∈ scanRows x (y + (r.length : Int) - 1) r
  | [], x, y => by simp [scanUp, scanRows]
  | l :: r, x, y => by
    rw [List.reverse_cons, scanUp_append, scanRows, List.mem_append, List.mem_append, mem_scanUp (r := r), List.length_reverse]
    have e1 : y + ((l :: r).length : Int) - 1 = y + (r.length : Int) := by simp; omega
    have e2 : y + (r.length : Int) - 1 = y + ((l :: r).length : Int) - 1 - 1 := by simp; omega
    rw [e2, e1]
    simp only [scanUp, List.append_nil]
    exact Or.comm
theorem scanUp_y {a : Sp} : ∀ {r : List Bs} {x y : Int}, a ∈ scanUp x y r → y ≤ a.2
  | [], x, y, h => by cases h
  | l :: r, x, y, h => by
    rw [scanUp, List.mem_append] at h
    rcases h with h | h
    · exact Int.le_of_eq (mem_scanRow.1 h).1.symm
    · have := scanUp_y h; omega
theorem scanRow_sorted {y : Int} : ∀ {l : Bs} {x : Int}, Sorted (scanRow x y l)
  | [], x => List.Pairwise.nil
  | b :: l, x => by
    rw [scanRow]
    have ih := scanRow_sorted (l := l) (x := x + 1) (y := y)
    split
    · refine List.pairwise_cons.2 ⟨fun a ha => ?_, ih⟩
      obtain ⟨h1, i, h2, _⟩ := mem_scanRow.1 ha
      show Lt _ _
      unfold Lt
      simp only []
      omega
    · exact ih
theorem scanUp_sorted : ∀ {r : List Bs} {x y : Int}, Sorted (scanUp x y r)
  | [], x, y => List.Pairwise.nil
  | l :: r, x, y => by
    rw [scanUp]
    refine List.pairwise_append.2 ⟨scanRow_sorted, scanUp_sorted, fun a ha b hb => ?_⟩
    have h1 := (mem_scanRow.1 ha).1
    have h2 := scanUp_y hb
    show Lt _ _
    unfold Lt
    omega
/-- a picture is what its rows tell -/
theorem scanUp_rows {p : List Sp} (h : picB p = true) (h0 : p ≠ []) : scanUp (boxL p).1.1 (boxL p).1.2 (rowsT p).reverse = p := by
  refine sorted_ext scanUp_sorted (picB_pic h).2.2 fun a => ?_
  rw [mem_scanUp, (rows_are h h0).many]
  have e : (boxL p).1.2 + ((boxL p).2.2 - (boxL p).1.2 + 1) - 1 = (boxL p).2.2 := by omega
  rw [e]
  exact mem_scan h h0
theorem scanRow_length (y : Int) : ∀ {l : Bs} {x : Int}, (scanRow x y l).length ≤ l.length
  | [], x => Nat.le_refl _
  | b :: l, x => by
    have := scanRow_length y (l := l) (x := x + 1)
    rw [scanRow, List.length_append, List.length_cons]
    split
    · simp; omega
    · simp; omega
/-- k rows and j signs of the next one, from the lowest row up -/
def upK (x y : Int) (rows : List Bs) (k j : Nat) : List Sp := scanUp x y (rows.take k) ++ scanRow x (y + (k : Int)) ((rows.getD k []).take j)
theorem upK_zero (x y : Int) (rows : List Bs) : upK x y rows 0 0 = [] := by unfold upK; simp [scanUp, scanRow]
theorem upK_next {x y : Int} {rows : List Bs} {k : Nat} {l : Bs} (h : rows[k]? = some l) : upK x y rows k l.length = upK x y rows (k + 1) 0 := by
  have hk := (List.getElem?_eq_some_iff.1 h).1
  unfold upK
  rw [List.getD_eq_getElem?_getD, h]
  simp only [Option.getD_some, List.take_length, List.take_zero, scanRow, List.append_nil]
  rw [List.take_add_one, h, Option.toList_some, scanUp_append, List.length_take, Nat.min_eq_left (Nat.le_of_lt hk)]
  simp [scanUp]
theorem upK_step {x y : Int} {rows : List Bs} {k j : Nat} {l : Bs} {b : UInt8} (h : rows[k]? = some l) (hb : l[j]? = some b) : upK x y rows k (j + 1) = upK x y rows k j ++ (if b = 35 then [(x + (j : Int), y + (k : Int))] else []) := by
  have hj := (List.getElem?_eq_some_iff.1 hb).1
  unfold upK
  rw [List.getD_eq_getElem?_getD, h]
  simp only [Option.getD_some]
  rw [List.take_add_one, hb, Option.toList_some, scanRow_append, List.length_take, Nat.min_eq_left (Nat.le_of_lt hj), List.append_assoc]
  simp [scanRow]
theorem upK_all (x y : Int) (rows : List Bs) : upK x y rows rows.length 0 = scanUp x y rows := by
  unfold upK
  simp [scanRow]
theorem scanUp_length : ∀ {r : List Bs} {x y : Int}, (∀ l ∈ r, l.length ≤ 61) → (scanUp x y r).length ≤ 61 * r.length
  | [], x, y, _ => Nat.le_refl _
  | l :: r, x, y, h => by
    have h1 := h l (by simp)
    have h2 := scanUp_length (r := r) (x := x) (y := y + 1) fun k hk => h k (List.mem_cons_of_mem _ hk)
    have h3 := scanRow_length y (l := l) (x := x)
    rw [scanUp, List.length_append, List.length_cons]
    omega
theorem upK_le {x y : Int} {rows : List Bs} {k j : Nat} (h : ∀ l ∈ rows, l.length ≤ 61) : (upK x y rows k j).length ≤ 61 * rows.length + 61 := by
  unfold upK
  have h1 := scanUp_length (r := rows.take k) (x := x) (y := y) fun l hl => h l (List.mem_of_mem_take hl)
  have h2 := scanRow_length (y + (k : Int)) (l := (rows.getD k []).take j) (x := x)
  have h3 : ((rows.getD k []).take j).length ≤ 61 := by
    rw [List.length_take]
    rw [List.getD_eq_getElem?_getD]
    cases e : rows[k]? with
    | none => simp
    | some l => have := h l (List.mem_of_getElem? e); simp; omega
  have h4 : (rows.take k).length ≤ rows.length := by rw [List.length_take]; omega
  rw [List.length_append]
  omega

/-! ### rows read run by run: o has been read, r is left -/
def RunInv (s o r : Bs) : Prop := ∀ l, rowOk l = true → shortR l = s → ∃ m, l = o ++ m ∧ r = encF 0 m
theorem RunInv.start (s : Bs) : RunInv s [] s := fun l h1 h2 => ⟨l, rfl, by rw [← h2, shortR_yes h1]⟩
theorem emit_parts (n : Nat) (b : UInt8) : emit n b = (if 1 < n then natB n else []) ++ [b] := rfl
theorem encF_ascii : ∀ {l : Bs} {t : Nat}, (∀ b ∈ l, isSign b = true) → ∀ b ∈ encF t l, b.toNat < 128
  | [], _, _, b, hb => by cases hb
  | [a], t, h, b, hb => by
    rw [encF] at hb
    exact emit_ascii (h a (by simp)) hb
  | a :: c :: l, t, h, b, hb => by
    rw [encF] at hb
    have h' : ∀ d ∈ c :: l, isSign d = true := fun d hd => h d (List.mem_cons_of_mem _ hd)
    split at hb
    · exact encF_ascii h' b hb
    · rcases List.mem_append.1 hb with hb | hb
      · exact emit_ascii (h a (by simp)) hb
      · exact encF_ascii h' b hb
where
  emit_ascii {n : Nat} {a b : UInt8} (ha : isSign a = true) (hb : b ∈ emit n a) : b.toNat < 128 := by
    rw [emit_parts, List.mem_append, List.mem_singleton] at hb
    rcases hb with hb | rfl
    · split at hb
      · have := of_decide_eq_true (natB_digits n b hb); omega
      · cases hb
    · rcases of_decide_eq_true ha with rfl | rfl <;> decide
theorem RunInv.ascii {s o r l : Bs} (h : RunInv s o r) (h1 : rowOk l = true) (h2 : shortR l = s) : ∀ b ∈ r, b.toNat < 128 := by
  obtain ⟨m, e1, e2⟩ := h l h1 h2
  rw [e2]
  exact encF_ascii fun b hb => (rowOk_is.1 h1).2 b (by rw [e1]; exact List.mem_append_right _ hb)
/-- the end of what is read -/
theorem RunInv.fin {s o r l : Bs} (h : RunInv s o r) (h1 : rowOk l = true) (h2 : shortR l = s) (e : r = []) : o = l := by
  obtain ⟨m, e1, e2⟩ := h l h1 h2
  cases m with
  | nil => rw [e1, List.append_nil]
  | cons a m => exact absurd (e2.symm.trans e) (encF_ne (by simp))
theorem RunInv.long {s o r l : Bs} (h : RunInv s o r) (h1 : rowOk l = true) (h2 : shortR l = s) (e : r ≠ []) : o.length ≤ 60 := by
  obtain ⟨m, e1, e2⟩ := h l h1 h2
  have h3 := (rowOk_is.1 h1).1.2
  cases m with
  | nil => exact absurd e2 e
  | cons a m => rw [e1, List.length_append, List.length_cons] at h3; omega
/-- what a count tells -/
def cntR (d : Bs) : Int × Bool := if d = [] then (1, true) else match Lib.atoiAll d with
  | .ok v => (v, decide (1 ≤ v ∧ v ≤ 61))
  | _ => (0, false)
/-- one run is read -/
theorem RunInv.step {s o r l part sign rest : Bs} (h : RunInv s o r) (h1 : rowOk l = true) (h2 : shortR l = s) (e : r ≠ []) (hc : Cut2 [35, 46] r part sign rest) :
    ∃ (n : Nat) (b : UInt8), cntR part = ((n : Int), true) ∧ sign = [b] ∧ 1 ≤ n ∧ ∃ m', l = o ++ (List.replicate n b ++ m') ∧ rest = encF 0 m' := by
  obtain ⟨m, e1, e2⟩ := h l h1 h2
  have hs : ∀ b ∈ m, isSign b = true := fun b hb => (rowOk_is.1 h1).2 b (by rw [e1]; exact List.mem_append_right _ hb)
  have hl : m.length ≤ 61 := by
    have := (rowOk_is.1 h1).1.2
    rw [e1, List.length_append] at this; omega
  cases m with
  | nil => exact absurd e2 e
  | cons b m =>
    rw [encF_run, emit_parts, List.append_assoc] at e2
    have hle := trimLeft_le m b
    simp only [List.length_cons] at hl
    obtain ⟨n, hn⟩ : ∃ n, 0 + 1 + (m.length - (Lib.trimLeftB m b).length) = n := ⟨_, rfl⟩
    have hsp := run_split m b
    rw [show 1 + (m.length - (Lib.trimLeftB m b).length) = n by omega] at hsp
    rw [hn] at e2
    have hb := hs b (by simp)
    have key : part = (if 1 < n then natB n else []) ∧ sign = [b] ∧ rest = encF 0 (Lib.trimLeftB m b) := by
      have hno : ∀ c ∈ (if 1 < n then natB n else []), isSign c = false := fun c hc => by
        split at hc
        · exact dig_noSign (natB_digits n c hc)
        · cases hc
      rcases hc with ⟨_, _, _, h4⟩ | ⟨c, k1, k2, k3, k4⟩
      · have := h4 b (by rw [e2]; simp)
        rw [signs_contains, hb] at this; cases this
      · rw [e2] at k2
        have hx : ∀ {p q t u : Bs} {c b : UInt8}, p ++ b :: t = q ++ c :: u → (∀ x ∈ p, isSign x = false) → (∀ x ∈ q, isSign x = false) → isSign b = true → isSign c = true → q = p ∧ c = b ∧ u = t := fun {p} => by
          induction p with
          | nil =>
            intro q t u c b h _ hq hb hc
            cases q with
            | nil => obtain ⟨a1, a2⟩ := List.cons.inj h; exact ⟨rfl, a1.symm, a2.symm⟩
            | cons a q =>
              have := (List.cons.inj h).1
              have h3 := hq a (by simp)
              rw [← this, hb] at h3; cases h3
          | cons a p ih =>
            intro q t u c b h hp hq hb hc
            cases q with
            | nil =>
              have := (List.cons.inj h).1
              have h3 := hp a (by simp)
              rw [this, hc] at h3; cases h3
            | cons d q =>
              obtain ⟨a1, a2⟩ := List.cons.inj h
              obtain ⟨b1, b2, b3⟩ := ih a2 (fun x hx => hp x (List.mem_cons_of_mem _ hx)) (fun x hx => hq x (List.mem_cons_of_mem _ hx)) hb hc
              exact ⟨by rw [a1, b1], b2, b3⟩
        obtain ⟨b1, b2, b3⟩ := hx k2 hno (fun x hx => by rw [← signs_contains]; exact k4 x hx) hb (by rw [← signs_contains]; exact k3)
        exact ⟨b1, by rw [k1, b2], b3⟩
    obtain ⟨p1, p2, p3⟩ := key
    refine ⟨n, b, ?_, p2, by omega, Lib.trimLeftB m b, by rw [← hsp]; exact e1, p3⟩
    rw [p1]
    by_cases h1n : 1 < n
    · rw [if_pos h1n]
      unfold cntR
      rw [if_neg (natB_ne n), atoi_natB (by omega)]
      simp only [Prod.mk.injEq, decide_eq_true_eq, true_and]
      omega
    · rw [if_neg h1n]
      have : n = 1 := by omega
      rw [this]; rfl
end Go.Proofs.YtpdnakiilhohdaaDoor
