/- Texts of one kind, merged: Sets, Tally, Keys. No conditions but those that stand in each theorem. -/
import Derived.Maps.OwnSet
import Derived.Test.YtbbeinhjkfjipaaRows
import Derived.Maps.RangeWalk
import Derived.WideKeyEntry
import Derived.Test.YtbbeinhjkfjipaaMem
import Derived.DeepKeys4
namespace Go.Proofs.Ytbbeinhjkfjipaa
/-! ### Sets -/
section
open Go.RowKit Go.Maps

section
variable {α : Type} {P : Program} {k : TypeId} {kv : α → Value} {lit : α → Lit} {ok : α → Prop}
/-- the values of a kind are keys: what they read as, and no two read alike -/
structure KeyW (P : Program) (k : TypeId) (kv : α → Value) (lit : α → Lit) (ok : α → Prop) : Prop where
  law : Keyed P k
  key : ∀ a, ok a → keyOf P k (kv a) = some (lit a)
  inj : ∀ a b, kv a = kv b → a = b
theorem KeyW.same (h : KeyW P k kv lit ok) {a b : α} (ha : ok a) (hb : ok b) (e : lit a = lit b) : a = b :=
  h.inj _ _ (h.law.inj (h.key a ha) (by rw [e]; exact h.key b hb))
theorem KeyW.isKey (h : KeyW P k kv lit ok) {a : α} (ha : ok a) : WideAt.IsKeyLit (lit a) := h.law.key (h.key a ha)
theorem addKey_spec : ∀ (xs L : List Lit), L.Nodup → (∀ x ∈ xs, WideAt.IsKeyLit x) → (xs.foldl addKey L).Nodup ∧ ∀ y, y ∈ xs.foldl addKey L ↔ y ∈ L ∨ y ∈ xs
  | [], L, h, _ => ⟨h, fun y => by simp⟩
  | x :: r, L, h, hk => by
    rw [List.foldl_cons]
    have hx := hk x (by simp)
    by_cases hm : x ∈ L
    · have e : addKey L x = L := by
        unfold addKey
        have hany : (L.any fun y => y.sameKey x) = true := List.any_eq_true.2 ⟨x, hm, WideAt.sameKey_self hx⟩
        exact if_pos hany
      rw [e]
      obtain ⟨h1, h2⟩ := addKey_spec r L h fun y hy => hk y (by simp [hy])
      refine ⟨h1, fun y => ?_⟩
      rw [h2, List.mem_cons]
      constructor
      · rintro (h | h)
        · exact .inl h
        · exact .inr (.inr h)
      · rintro (h | rfl | h)
        · exact .inl h
        · exact .inl hm
        · exact .inr h
    · have e : addKey L x = L ++ [x] := by
        unfold addKey
        have hany : ¬ (L.any fun y => y.sameKey x) = true := fun k => by
          obtain ⟨y, hy, hs⟩ := List.any_eq_true.1 k
          rw [WideAt.sameKey_eq hs] at hy
          exact hm hy
        exact if_neg hany
      rw [e]
      obtain ⟨h1, h2⟩ := addKey_spec r (L ++ [x]) (List.nodup_append.2 ⟨h, by simp, fun a ha b hb => by rw [List.mem_singleton] at hb; subst hb; exact fun e => hm (e ▸ ha)⟩) fun y hy => hk y (by simp [hy])
      refine ⟨h1, fun y => ?_⟩
      rw [h2, List.mem_append, List.mem_singleton, List.mem_cons]
      constructor
      · rintro ((h | h) | h)
        · exact .inl h
        · exact .inr (.inl h)
        · exact .inr (.inr h)
      · rintro (h | h | h)
        · exact .inl (.inl h)
        · exact .inl (.inr h)
        · exact .inr h
/-- how many different ones a list has -/
theorem size_set {H : Type} (u : DataW H) (h : KeyW P k kv lit ok) {l m : List α} (hok : ∀ a ∈ l, ok a) (hnd : m.Nodup) (hmem : ∀ a, a ∈ l ↔ a ∈ m) : Maps.size (setOf u (l.map lit)) = m.length := by
  have hk : ∀ x ∈ l.map lit, WideAt.IsKeyLit x := fun x hx => by
    obtain ⟨a, ha, rfl⟩ := List.mem_map.1 hx
    exact h.isKey (hok a ha)
  rw [size_setOf u _ hk]
  obtain ⟨h1, h2⟩ := addKey_spec (l.map lit) [] List.nodup_nil hk
  have h3 : (m.map lit).Nodup := by
    refine List.pairwise_map.2 (hnd.imp_of_mem fun {a b} ha hb hne e => hne (h.same (hok a ((hmem a).2 ha)) (hok b ((hmem b).2 hb)) e))
  have hp := (List.perm_ext_iff_of_nodup h1 h3).2 fun y => by
    rw [h2, List.mem_map, List.mem_map]
    constructor
    · rintro (h | ⟨a, ha, e⟩)
      · cases h
      · exact ⟨a, (hmem a).1 ha, e⟩
    · rintro ⟨a, ha, e⟩
      exact .inr ⟨a, (hmem a).2 ha, e⟩
  rw [hp.length_eq, List.length_map]
/-- block b is a map that holds the keys of a list, each with what reads as u -/
def SetIs (P : Program) (k : TypeId) (R : Value → Option (DataW Unit × List MemPlace)) (u : DataW Unit) (lit : α → Lit) (w : World) (b : Nat) (l : List α) : Prop := w.ownsMap P k R b l.length (setOf u (l.map lit))
variable {R : Value → Option (DataW Unit × List MemPlace)} {u : DataW Unit} {w : World} {b : Nat} {l : List α}
theorem SetIs.made (P : Program) (k : TypeId) (R : Value → Option (DataW Unit × List MemPlace)) (u : DataW Unit) (lit : α → Lit) (w : World) : SetIs P k R u lit (w.alloc (.map #[] 0)) w.heap.size [] := World.ownsMap_made _ _ _ _
theorem SetIs.lt (h : SetIs P k R u lit w b l) : b < w.heap.size := World.ownsMap.lt h
theorem SetIs.kept {w' : World} {row : Option Nat} (h : SetIs P k R u lit w b l) (hg : w.grownBy w' row) (hne : some b ≠ row) : SetIs P k R u lit w' b l := World.ownsMap.kept h hg hne
theorem SetIs.below {w' : World} {B : Nat} (h : SetIs P k R u lit w b l) (hb : Below B w w') (hlt : b < B) : SetIs P k R u lit w' b l := by
  obtain ⟨es, clock, h1, F, hs, hD⟩ := h
  exact ⟨es, clock, (hb.block b hlt).trans h1, F, hs, hD⟩
theorem SetIs.keep {w' : World} (h : SetIs P k R u lit w b l) (hb : Below w.heap.size w w') : SetIs P k R u lit w' b l := h.below hb h.lt
/-- a key more -/
theorem wpList_put_set {ops : Array Oper} {rest : List Oper} {o : Oper} {a : Act} {Q : Exit → Act → World → Prop} (kw : KeyW P k kv lit ok) {c : α} {val : Value} {e : TypeId}
    (hown : SetIs P k R u lit w b l) (hc : ok c) (hn : l.length < maxLen) (hval : R val = some (u, []))
    (hg : o.guard = none) (m x v : Operand) (t : TypeId) (hop : o.op = Op.mapUpdate t m x v) (ht : P.underlying t = some (.map k e)) (hm : a.eval m = .map (some b)) (hx : a.eval x = kv c) (hv : a.eval v = val)
    (hK : ∀ w', SetIs P k R u lit w' b (l ++ [c]) → w.grownBy w' (some b) → wpList P ops Q rest (a.put o.dst undef) w') : wpList P ops Q (o :: rest) a w := by
  refine wpList_mapUpdate_own w hg m x v t hop k e kw.law ht R b l.length _ hm hown hn (kv c) val (lit c) hx hv (kw.key c hc) u [] hval fun w' h1 h2 => hK w' ?_ h2
  unfold SetIs
  rw [List.map_append, List.length_append]
  show World.ownsMap _ _ _ _ _ _ (setOf u (l.map lit ++ [lit c]))
  rw [setOf_snoc]
  exact h1
/-- how many keys -/
theorem wpList_len_set {ops : Array Oper} {rest : List Oper} {o : Oper} {a : Act} {Q : Exit → Act → World → Prop} (kw : KeyW P k kv lit ok) {n : List α} {e : TypeId}
    (hown : SetIs P k R u lit w b l) (hok : ∀ a ∈ l, ok a) (hnd : n.Nodup) (hmem : ∀ a, a ∈ l ↔ a ∈ n)
    (hg : o.guard = none) (m : Operand) (t : TypeId) (hop : o.op = Op.call { callee := Callee.builtin Builtin.len, args := #[m], argTypes := #[t] }) (ht : P.underlying t = some (.map k e)) (hm : a.eval m = .map (some b))
    (hK : wpList P ops Q rest (a.put o.dst (.int .i64 (n.length : Nat))) w) : wpList P ops Q (o :: rest) a w := by
  refine wpList_len_own w hg m t hop k e ht R b l.length _ hm hown ?_
  rw [size_set u kw hok hnd hmem]
  exact hK
end
end
/-! ### Tally -/
section
open Go.RowKit Go.Maps

section
variable {α : Type} {P : Program} {k e : TypeId} {q : IntKind} {kv : α → Value} {lit : α → Lit} {ok : α → Prop}
/-- what a map's datum says: its keys are those of l, with f at each (nought elsewhere) -/
structure TallyD (q : IntKind) (lit : α → Lit) (ok : α → Prop) (D : DataW Unit) (l : List α) (f : α → Int) : Prop where
  tidy : Tidy D
  keys : ∀ a, ok a → (Maps.has D (lit a) = true ↔ a ∈ l)
  all : ∀ kl, Maps.has D kl = true → ∃ a ∈ l, kl = lit a
  okl : ∀ a ∈ l, ok a
  at_ : ∀ a, ok a → D.atKey (lit a) (.lit (.int q 0)) = .lit (.int q (f a))
  size : ∃ K : List α, K.Nodup ∧ (∀ a, a ∈ K ↔ a ∈ l) ∧ Maps.size D = K.length
def Tally (P : Program) (k e : TypeId) (q : IntKind) (lit : α → Lit) (ok : α → Prop) (w : World) (b : Nat) (l : List α) (f : α → Int) : Prop :=
  ∃ D : DataW Unit, w.ownsMap P k (plainElem P e) b l.length D ∧ TallyD q lit ok D l f

theorem TallyD.nil : TallyD q lit ok (.map []) ([] : List α) (fun _ => 0) :=
  { tidy := tidy_empty
    keys := fun a _ => ⟨fun h => (by simp [Maps.has] at h), fun h => (by cases h)⟩
    all := fun kl h => (by simp [Maps.has] at h)
    okl := fun a h => (by cases h)
    at_ := fun a _ => rfl
    size := ⟨[], List.nodup_nil, fun a => Iff.rfl, rfl⟩ }
theorem TallyD.put {D : DataW Unit} {l : List α} {f g : α → Int} (kw : KeyW P k kv lit ok) (h : TallyD q lit ok D l f) {c : α} (hc : ok c) (hg : ∀ a, a ≠ c → g a = f a) : TallyD q lit ok (D.put (lit c) (.lit (.int q (g c)))) (l ++ [c]) g := by
  have hk := kw.isKey hc
  have ne : ∀ a, ok a → a ≠ c → lit a ≠ lit c := fun a ha hne e => hne (kw.same ha hc e)
  refine ⟨h.tidy.put hk _, fun a ha => ?_, fun kl hkl => ?_, fun a ha => ?_, fun a ha => ?_, ?_⟩
  · rw [List.mem_append, List.mem_singleton]
    by_cases e : a = c
    · subst e; rw [has_put_same h.tidy.isMap hk]; simp
    · rw [has_put_other (ne a ha e), h.keys a ha]; simp [e]
  · by_cases e : kl = lit c
    · exact ⟨c, by simp, e⟩
    · rw [has_put_other e] at hkl
      obtain ⟨a, ha, e2⟩ := h.all kl hkl
      exact ⟨a, by simp [ha], e2⟩
  · rcases List.mem_append.1 ha with ha | ha
    · exact h.okl a ha
    · rw [List.mem_singleton] at ha; subst ha; exact hc
  · by_cases e : a = c
    · subst e; rw [atKey_put_same h.tidy.isMap hk]
    · rw [atKey_put_other (ne a ha e), h.at_ a ha, hg a e]
  · obtain ⟨K, k1, k2, k3⟩ := h.size
    have hs := size_put (k := lit c) h.tidy (.lit (.int q (g c)))
    by_cases hm : c ∈ l
    · refine ⟨K, k1, fun a => ?_, ?_⟩
      · rw [k2, List.mem_append, List.mem_singleton]
        exact ⟨.inl, fun h => h.elim id fun e => e ▸ hm⟩
      · rw [hs, (h.keys c hc).2 hm, if_pos rfl, k3]
    · refine ⟨K ++ [c], ?_, fun a => ?_, ?_⟩
      · refine List.nodup_append.2 ⟨k1, by simp, fun a ha b hb e => hm ((k2 c).1 ?_)⟩
        rw [List.mem_singleton] at hb; subst hb; exact e ▸ ha
      · rw [List.mem_append, List.mem_append, k2]
      · have : ¬ Maps.has D (lit c) = true := fun k => hm ((h.keys c hc).1 k)
        rw [hs, if_neg this, k3, List.length_append]; rfl
theorem TallyD.size_is {D : DataW Unit} {l m : List α} {f : α → Int} (h : TallyD q lit ok D l f) (hnd : m.Nodup) (hmem : ∀ a, a ∈ l ↔ a ∈ m) : Maps.size D = m.length := by
  obtain ⟨K, k1, k2, k3⟩ := h.size
  rw [k3]
  exact ((List.perm_ext_iff_of_nodup k1 hnd).2 fun x => by rw [k2, hmem]).length_eq
theorem TallyD.to {D : DataW Unit} {l : List α} {f g : α → Int} (h : TallyD q lit ok D l f) (e : ∀ a, g a = f a) : TallyD q lit ok D l g := by
  rw [show g = f from funext e]; exact h

variable {w : World} {b : Nat} {l : List α} {f : α → Int}
theorem Tally.made (w : World) : Tally P k e q lit ok (w.alloc (.map #[] 0)) w.heap.size ([] : List α) (fun _ => 0) := ⟨_, World.ownsMap_made _ _ _ _, TallyD.nil⟩
theorem Tally.lt (h : Tally P k e q lit ok w b l f) : b < w.heap.size := by
  obtain ⟨D, h, _⟩ := h; exact h.lt
theorem Tally.kept {w' : World} {row : Option Nat} (h : Tally P k e q lit ok w b l f) (hg : w.grownBy w' row) (hne : some b ≠ row) : Tally P k e q lit ok w' b l f := by
  obtain ⟨D, h, hd⟩ := h; exact ⟨D, h.kept hg hne, hd⟩
theorem Tally.below {w' : World} {B : Nat} (h : Tally P k e q lit ok w b l f) (hb : Below B w w') (hlt : b < B) : Tally P k e q lit ok w' b l f := by
  obtain ⟨D, ⟨es, clock, h1, F, hs, hD⟩, hd⟩ := h
  exact ⟨D, ⟨es, clock, (hb.block b hlt).trans h1, F, hs, hD⟩, hd⟩
theorem Tally.keep {w' : World} (h : Tally P k e q lit ok w b l f) (hb : Below w.heap.size w w') : Tally P k e q lit ok w' b l f := h.below hb h.lt
theorem Tally.to {g : α → Int} (h : Tally P k e q lit ok w b l f) (hg : ∀ a, g a = f a) : Tally P k e q lit ok w b l g := by
  obtain ⟨D, h, hd⟩ := h; exact ⟨D, h, hd.to hg⟩

/-- an entry is laid, or found: as if what stands at the key were stored -/
theorem entry_law {H : Type} {R : Value → Option (DataW H × List MemPlace)} {t : TypeId} {es : Array MapEntry} {clock : Nat} (K : Keyed P k) (ht : P.underlying t = some (.map k e)) {z : Value} (hz : ∀ u : World, (zeroValue e).run P u = .ok z u) (hb : w.heap[b]? = some (.map es clock)) (F : WideElems.Fit P k R es clock)
    {key : Value} {kl : Lit} (hkey : keyOf P k key = some kl) :
    ∃ (v0 : Value) (st : Nat) (es1 : Array MapEntry) (clock1 : Nat), (Instr.mapEntry t (.map (some b)) key).run P w = .ok (.tuple #[v0, .int .i64 (st : Int)]) (ChangeMaps.setBlock w b (.map es1 clock1)) ∧
      (Instr.mapUpdate t (.map (some b)) key v0).run P w = .ok () (ChangeMaps.setBlock w b (.map es1 clock1)) ∧ (Instr.lookup t (.map (some b)) key false).run P w = .ok v0 w ∧
      ∀ (w2 : World) (val : Value), w2.heap[b]? = some (.map es1 clock1) → ∃ es' clock', (Instr.entryStore t (.map (some b)) (.int .i64 (st : Int)) val).run P w2 = .ok () (ChangeMaps.setBlock w2 b (.map es' clock')) ∧
        (Instr.mapUpdate t (.map (some b)) key val).run P w = .ok () (ChangeMaps.setBlock w b (.map es' clock')) := by
  obtain ⟨s1, s2, _⟩ := F.stamped
  rcases K.find w hkey es.toList F.keys with ⟨h1, h2⟩ | ⟨j, e0, h1, h2, h3⟩
  · refine ⟨z, clock, es.push ⟨key, z, clock⟩, clock + 1, ?_, ?_, ?_, fun w2 val hw2 => ⟨es.push ⟨key, val, clock⟩, clock + 1, ?_, ?_⟩⟩
    · simp [Instr.mapEntry, run_underlying ht, MapKept.run_getObj_map hb, K.check w false hkey, h1, hz, MapKept.run_setObj_map _ hb, Result.andThen, ChangeMaps.setBlock, goInt]
    · simp [Instr.mapUpdate, run_underlying ht, MapKept.run_getObj_map hb, K.check w false hkey, h1, MapKept.run_setObj_map _ hb, Result.andThen, ChangeMaps.setBlock]
    · simp [Instr.lookup, run_underlying ht, MapKept.run_getObj_map hb, K.check w _ hkey, h1, hz, Result.andThen]
    · have hidx : (es.push ⟨key, z, clock⟩).findIdx? (fun e => ((e.born : Nat) : Int) == ((clock : Nat) : Int)) = some es.size := by
        rw [WideElems.findIdx_arr]
        have := WideElems.findIdx_born (l := (es.push ⟨key, z, clock⟩).toList) (j := es.size) (e0 := ⟨key, z, clock⟩) (by
          simp only [Array.toList_push, List.map_append, List.map_cons, List.map_nil]
          refine List.nodup_append.2 ⟨s2, by simp, fun a ha c hc e1 => ?_⟩
          simp only [List.mem_singleton] at hc
          obtain ⟨x, hx, rfl⟩ := List.mem_map.1 ha
          have := s1 x hx
          omega) (by simp)
        exact this
      have hmod : (es.push ⟨key, z, clock⟩).modify es.size (fun e => { e with val := val }) = es.push ⟨key, val, clock⟩ := by
        apply Array.ext'
        rw [Array.toList_modify, Array.toList_push, Array.toList_push, ← Array.length_toList, WideElems.modify_last]
      simp [Instr.entryStore, MapKept.run_getObj_map hw2, asInt, asIntOf, hidx, hmod, MapKept.run_setObj_map _ hw2, Result.andThen, ChangeMaps.setBlock]
    · simp [Instr.mapUpdate, run_underlying ht, MapKept.run_getObj_map hb, K.check w false hkey, h1, MapKept.run_setObj_map _ hb, Result.andThen, ChangeMaps.setBlock]
  · have hj : es[j]? = some e0 := by simpa using h2
    have hsame : es.modify j (fun e => { e with key := key }) = es := by
      apply Array.ext'
      rw [Array.toList_modify, ChangeMaps.modify_eq_set _ _ _ _ h2]
      have : ({ e0 with key := key } : MapEntry) = e0 := by rw [← h3]
      rw [this]
      exact WideElems.set_self _ _ _ h2
    have hsame2 : es.modify j (fun e' => { e' with key := key, val := e0.val }) = es := by
      apply Array.ext'
      rw [Array.toList_modify, ChangeMaps.modify_eq_set _ _ _ _ h2]
      have : ({ e0 with key := key, val := e0.val } : MapEntry) = e0 := by rw [← h3]
      rw [this]
      exact WideElems.set_self _ _ _ h2
    refine ⟨e0.val, e0.born, es, clock, ?_, ?_, ?_, fun w2 val hw2 => ⟨es.modify j (fun e' => { e' with key := key, val := val }), clock, ?_, ?_⟩⟩
    · simp [Instr.mapEntry, run_underlying ht, MapKept.run_getObj_map hb, K.check w false hkey, h1, hj, h3, K.stays w hkey, hsame, MapKept.run_setObj_map _ hb, Result.andThen, ChangeMaps.setBlock, goInt]
    · simp [Instr.mapUpdate, run_underlying ht, MapKept.run_getObj_map hb, K.check w false hkey, h1, hj, h3, K.stays w hkey, hsame2, MapKept.run_setObj_map _ hb, Result.andThen, ChangeMaps.setBlock]
    · simp [Instr.lookup, run_underlying ht, MapKept.run_getObj_map hb, K.check w _ hkey, h1, Result.andThen]
    · have hidx : es.findIdx? (fun e => ((e.born : Nat) : Int) == ((e0.born : Nat) : Int)) = some j := by
        rw [WideElems.findIdx_arr]
        exact WideElems.findIdx_born s2 h2
      have hmod : es.modify j (fun e => { e with val := val }) = es.modify j (fun e' => { e' with key := key, val := val }) := by
        apply Array.ext'
        rw [Array.toList_modify, Array.toList_modify, ChangeMaps.modify_eq_set _ _ _ _ h2, ChangeMaps.modify_eq_set _ _ _ _ h2, ← h3]
      simp [Instr.entryStore, MapKept.run_getObj_map hw2, asInt, asIntOf, hidx, hmod, MapKept.run_setObj_map _ hw2, Result.andThen, ChangeMaps.setBlock]
    · simp [Instr.mapUpdate, run_underlying ht, MapKept.run_getObj_map hb, K.check w false hkey, h1, hj, h3, K.stays w hkey, MapKept.run_setObj_map _ hb, Result.andThen, ChangeMaps.setBlock]
/-- 'm[c] op= x': a look-up and an entry in whatever order, then the store -/
theorem Tally.entry {t : TypeId} {g : α → Int} (kw : KeyW P k kv lit ok) {c : α} (hown : Tally P k e q lit ok w b l f) (hc : ok c) (hgf : ∀ a, a ≠ c → g a = f a) (hn : l.length < maxLen) (hwf : (Lit.int q (g c)).wf = true)
    (ht : P.underlying t = some (.map k e)) (he : P.underlying e = some (.int q)) (hz : ∀ u : World, (zeroValue e).run P u = .ok (.int q 0) u) :
    ∃ (st : Nat) (w1 w2 : World), (Instr.lookup t (.map (some b)) (kv c) false).run P w = .ok (.int q (f c)) w ∧ (Instr.mapEntry t (.map (some b)) (kv c)).run P w = .ok (.tuple #[.int q (f c), .int .i64 (st : Int)]) w1 ∧
      (Instr.lookup t (.map (some b)) (kv c) false).run P w1 = .ok (.int q (f c)) w1 ∧ (Instr.entryStore t (.map (some b)) (.int .i64 (st : Int)) (.int q (g c))).run P w1 = .ok () w2 ∧
      w.grownBy w1 (some b) ∧ w.grownBy w2 (some b) ∧ Tally P k e q lit ok w2 b (l ++ [c]) g := by
  obtain ⟨D, h, hd⟩ := hown
  have hkey := kw.key c hc
  obtain ⟨y0, hlook, hat, hwy⟩ := h.lookup_int kw.law ht he (hz w) hkey
  rw [hd.at_ c hc] at hat
  obtain rfl : y0 = f c := by injection hat with h1; injection h1 with h1 h2; exact h2.symm
  obtain ⟨w1', u1, u2, u3⟩ := h.update kw.law ht hn hkey (plainElem_int he hwy)
  obtain ⟨w2', v1, v2, v3⟩ := h.update kw.law ht hn hkey (plainElem_int he hwf)
  have hd1 := hd.put kw hc (g := f) fun _ _ => rfl
  have hd2 := hd.put kw hc hgf
  have ht1 : Tally P k e q lit ok w1' b (l ++ [c]) f := ⟨_, by rw [List.length_append]; exact u2, hd1⟩
  have ht2 : Tally P k e q lit ok w2' b (l ++ [c]) g := ⟨_, by rw [List.length_append]; exact v2, hd2⟩
  obtain ⟨y1, look1, hat1, _⟩ := u2.lookup_int kw.law ht he (hz w1') hkey
  rw [hd1.at_ c hc] at hat1
  obtain rfl : y1 = f c := by injection hat1 with h1; injection h1 with h1 h2; exact h2.symm
  obtain ⟨es, clock, hb, F, _, _⟩ := h
  obtain ⟨v0, st, es1, clock1, e1, e2, e3, e4⟩ := entry_law kw.law ht hz hb F hkey
  obtain rfl : v0 = .int q (f c) := by rw [hlook] at e3; injection e3 with h1 h2; exact h1.symm
  obtain rfl : w1' = ChangeMaps.setBlock w b (.map es1 clock1) := by rw [u1] at e2; injection e2
  obtain ⟨es', clock', s1, s2⟩ := e4 _ (.int q (g c)) (ChangeMaps.heap_setBlock_same hb _)
  obtain rfl : w2' = ChangeMaps.setBlock w b (.map es' clock') := by rw [v1] at s2; injection s2
  have e5 : ChangeMaps.setBlock (ChangeMaps.setBlock w b (.map es1 clock1)) b (.map es' clock') = ChangeMaps.setBlock w b (.map es' clock') := by simp [ChangeMaps.setBlock]
  rw [e5] at s1
  exact ⟨st, _, _, hlook, e1, look1, s1, u3, v3, ht2⟩

section
variable {ops : Array Oper} {rest : List Oper} {o : Oper} {a : Act} {Q : Exit → Act → World → Prop}
/-- what stands at a key -/
theorem wpList_look_tally (kw : KeyW P k kv lit ok) (hown : Tally P k e q lit ok w b l f) {c : α} (hc : ok c) (hg : o.guard = none) (m x : Operand) (t : TypeId) (hop : o.op = Op.lookup t m x false)
    (ht : P.underlying t = some (.map k e)) (he : P.underlying e = some (.int q)) (hz : (zeroValue e).run P w = .ok (.int q 0) w) (hm : a.eval m = .map (some b)) (hx : a.eval x = kv c)
    (hK : wpList P ops Q rest (a.put o.dst (.int q (f c))) w) : wpList P ops Q (o :: rest) a w := by
  obtain ⟨D, h, hd⟩ := hown
  refine wpList_lookup_own_int w hg m x t hop k e q kw.law ht he hz b l.length D hm h (kv c) (lit c) hx (kw.key c hc) fun y hy hw => ?_
  rw [hd.at_ c hc] at hy
  have : y = f c := by injection hy with h1; injection h1 with h1 h2; exact h2.symm
  rw [this]; exact hK
/-- how many keys -/
theorem wpList_len_tally (hown : Tally P k e q lit ok w b l f) {n : List α} (hnd : n.Nodup) (hmem : ∀ a, a ∈ l ↔ a ∈ n)
    (hg : o.guard = none) (m : Operand) (t : TypeId) (hop : o.op = Op.call { callee := Callee.builtin Builtin.len, args := #[m], argTypes := #[t] }) (ht : P.underlying t = some (.map k e)) (hm : a.eval m = .map (some b))
    (hK : wpList P ops Q rest (a.put o.dst (.int .i64 (n.length : Nat))) w) : wpList P ops Q (o :: rest) a w := by
  obtain ⟨D, h, hd⟩ := hown
  refine wpList_len_own w hg m t hop k e ht (plainElem P e) b l.length D hm h ?_
  rw [hd.size_is hnd hmem]
  exact hK
end

/-! ### a range over it: 'doneL K left' are those of K that have been -/
def doneL (lit : α → Lit) (K : List α) (left : Lit → Bool) : List α := K.filter fun a => !left (lit a)
/-- how many that have been are of a kind -/
def doneN (lit : α → Lit) (K : List α) (left : Lit → Bool) (p : α → Bool) : Nat := (K.filter fun a => !left (lit a) && p a).length
/-- what is left is of the map's keys -/
def LeftOk (lit : α → Lit) (K : List α) (left : Lit → Bool) : Prop := ∀ kl, left kl = true → ∃ a ∈ K, kl = lit a
theorem doneN_start {D : DataW Unit} {K : List α} (hd : TallyD q lit ok D l f) (hmem : ∀ a, a ∈ l ↔ a ∈ K) (p : α → Bool) : doneN lit K (Maps.has D) p = 0 := by
  unfold doneN
  rw [List.length_eq_zero_iff, List.filter_eq_nil_iff]
  intro a ha
  have := (hd.keys a (hd.okl a ((hmem a).2 ha))).2 ((hmem a).2 ha)
  rw [this]; simp
theorem leftOk_start {D : DataW Unit} {K : List α} (hd : TallyD q lit ok D l f) (hmem : ∀ a, a ∈ l ↔ a ∈ K) : LeftOk lit K (Maps.has D) := fun kl h => by
  obtain ⟨a, ha, e⟩ := hd.all kl h
  exact ⟨a, (hmem a).1 ha, e⟩
theorem LeftOk.step {K : List α} {left : Lit → Bool} (h : LeftOk lit K left) (x : Lit) : LeftOk lit K fun z => left z && !z.sameKey x := fun kl hk => h kl (by
  have hk' : (left kl && !kl.sameKey x) = true := hk
  cases e : left kl
  · rw [e] at hk'; cases hk'
  · rfl)
theorem doneN_end {K : List α} {left : Lit → Bool} (h : ∀ kl, left kl = false) (p : α → Bool) : doneN lit K left p = (K.filter p).length := by
  unfold doneN
  congr 1
  exact List.filter_congr fun a _ => by rw [h]; simp
theorem doneN_le {K : List α} {left : Lit → Bool} (p : α → Bool) : doneN lit K left p ≤ K.length := List.length_filter_le _ _
theorem doneN_step [DecidableEq α] (kw : KeyW P k kv lit ok) {K : List α} (hK : K.Nodup) (hok : ∀ a ∈ K, ok a) {left : Lit → Bool} {c : α} (hc : c ∈ K) (hl : left (lit c) = true) (p : α → Bool) :
    doneN lit K (fun z => left z && !z.sameKey (lit c)) p = doneN lit K left p + (if p c then 1 else 0) := by
  have hs : ∀ a ∈ K, (lit a).sameKey (lit c) = decide (a = c) := fun a ha => by
    by_cases e : a = c
    · subst e; rw [WideAt.sameKey_self (kw.isKey (hok a ha))]; simp
    · rw [sameKey_ne fun h => e (kw.same (hok a ha) (hok c hc) h)]; simp [e]
  have e1 : doneN lit K (fun z => left z && !z.sameKey (lit c)) p = (K.filter fun a => (!left (lit a) && p a) || (decide (a = c) && p c)).length := by
    unfold doneN
    congr 1
    refine List.filter_congr fun a ha => ?_
    show (!(left (lit a) && !(lit a).sameKey (lit c)) && p a) = _
    rw [hs a ha]
    by_cases e : a = c
    · subst e; rw [hl]; simp
    · simp [e]
  have e2 : ∀ L : List α, (L.filter fun a => (!left (lit a) && p a) || (decide (a = c) && p c)).length = (L.filter fun a => !left (lit a) && p a).length + (L.filter fun a => decide (a = c) && p c).length := fun L => by
    induction L with
    | nil => rfl
    | cons a L ih =>
      by_cases e : a = c
      · subst e
        rw [List.filter_cons, List.filter_cons, List.filter_cons, hl]
        cases hpa : p a <;> simp [hpa] at ih ⊢ <;> omega
      · rw [List.filter_cons, List.filter_cons, List.filter_cons]
        cases left (lit a) <;> cases p a <;> simp [e, ih] <;> omega
  rw [e1, e2]
  unfold doneN
  congr 1
  cases hp : p c
  · simp
  · rw [show (if true = true then 1 else 0 : Nat) = [c].length from rfl]
    have hnd : (K.filter fun a => decide (a = c) && true).Nodup := hK.sublist List.filter_sublist
    exact ((List.perm_ext_iff_of_nodup hnd (by simp)).2 fun x => by
      rw [List.mem_filter, List.mem_singleton]
      simp only [Bool.and_true, decide_eq_true_eq]
      exact ⟨fun h => h.2, fun h => ⟨h ▸ hc, h⟩⟩).length_eq
section
variable {ops : Array Oper} {rest : List Oper} {o : Oper} {a : Act} {Q : Exit → Act → World → Prop}
/-- the step: nothing is left, or one of the keys has come, with what stands at it -/
theorem wpList_next_tally (kw : KeyW P k kv lit ok) {D : DataW Unit} {K : List α} {r n : Nat} {left : Lit → Bool} {cnt : Nat} (hd : TallyD q lit ok D l f) (hmem : ∀ a, a ∈ l ↔ a ∈ K) (hL : LeftOk lit K left)
    (hg : o.guard = none) (it : Operand) (hop : o.op = Op.next it false) (he : P.underlying e = some (.int q)) (hit : a.eval it = .pointer (some ⟨r, 0, none⟩)) (h : w.ranges P k (plainElem P e) b r n D left cnt)
    (hDone : (∀ kl, left kl = false) → wpList P ops Q rest (a.put o.dst (.tuple #[.bool false])) w)
    (hMore : ∀ (c : α) (w' : World) (cnt' : Nat), c ∈ K → left (lit c) = true → (Lit.int q (f c)).wf = true → w'.ranges P k (plainElem P e) b r n D (fun z => left z && !z.sameKey (lit c)) cnt' → cnt' < cnt →
      w.grownBy w' (some r) → w'.heap.size = w.heap.size → (Instr.entry (.pointer (some ⟨r, 0, none⟩))).run P w' = .ok (.tuple #[kv c, .int q (f c)]) w' → wpList P ops Q rest (a.put o.dst (.tuple #[.bool true, kv c, .int q (f c)])) w') :
    wpList P ops Q (o :: rest) a w := by
  refine wpList_next_ranges w hg it hop k kw.law (plainElem P e) (fun v : Value => v) (Value.int q) (fun key kl hkey => ⟨key, rfl⟩) (fun v y hv => by obtain ⟨c, rfl, _⟩ := plainElem_int_inv he hv; exact ⟨c, rfl⟩)
    b r n D left cnt hit h (fun _ hl => hDone hl) (fun x c kl y w' cnt' hkey hlk hv hat hrg hlt hgr hsz hen => ?_)
  obtain ⟨a0, ha0, rfl⟩ := hL kl hlk
  have hok := hd.okl a0 ((hmem a0).2 ha0)
  obtain rfl := kw.law.inj hkey (kw.key a0 hok)
  obtain ⟨c', ec, rfl, hwc⟩ := plainElem_int_inv he hv
  cases ec
  have hz := hat (.lit (.int q 0))
  rw [hd.at_ a0 hok] at hz
  have : c = f a0 := by injection hz with h1; injection h1 with h1 h2; exact h2.symm
  subst this
  exact hMore a0 w' cnt' ha0 hlk hwc hrg hlt hgr hsz hen
end
end
end
/-! ### Keys -/
section
open Go.RowKit Go.Maps

theorem laidOutAll : laidOutB Try.prog = true := by kernel_rfl
theorem spotRow : (54 : TypeId) < Try.prog.types.size := of_decide_eq_true (by kernel_rfl)
theorem pos_succ {n k : Nat} (h : k < n) : ∃ m, n = m + 1 := ⟨n - 1, by omega⟩
theorem typesSome : ∃ m, Try.prog.types.size = m + 1 := pos_succ spotRow
theorem spotWide : (match Try.prog.underlying 54 with | some (.array _ _) | some (.struct _) => true | _ => false) = true := by kernel_rfl
set_option maxRecDepth 100000 in
theorem spotKeyed : Keyed Try.prog 54 := Keyed.of_law (deep_law_laid laidOutAll (m := 2) (by omega) spotRow (by kernel_rfl) spotWide)
theorem spotKT : Try.prog.keyType 54 = true := by kernel_rfl
theorem spotCells : Try.prog.cellsOf 54 = 2 := by kernel_rfl
theorem intCells : Try.prog.cellsOf 3 = 1 := by kernel_rfl
def spotLit (a : Sp) : Lit := .string (keyBytes [.int .i64 a.1, .int .i64 a.2])
def spotV (a : Sp) : Value := .agg #[.int .i64 a.1, .int .i64 a.2]
def spotIn (a : Sp) : Prop := (Lit.int .i64 a.1).wf = true ∧ (Lit.int .i64 a.2).wf = true
theorem spotKey (a : Sp) (h : spotIn a) : keyOf Try.prog 54 (spotV a) = some (spotLit a) := by
  obtain ⟨m, hm⟩ := typesSome
  obtain ⟨x, y⟩ := a
  obtain ⟨wa, wb⟩ := h
  unfold keyOf spotV
  simp only [Try.underlying54]
  rw [if_pos (by simp [spotKT, Value.formed, Try.underlying54, spotCells]), hm]
  unfold Program.keyLits
  simp only [Try.underlying54, Value.cells]
  rw [if_pos ⟨by rw [spotCells]; rfl, by simp⟩]
  simp only [List.mapM_cons, List.mapM_nil, intCells]
  simp [Program.keyLits, Try.underlying3, wa, wb, spotLit]
theorem spotInR {a : Sp} (h : -1000 ≤ a.1 ∧ a.1 ≤ 1000 ∧ -1000 ≤ a.2 ∧ a.2 ≤ 1000) : spotIn a := ⟨WalkArith.wf_i64 (by omega), WalkArith.wf_i64 (by omega)⟩
theorem spotInXY (x y : Int) (h : -1000 ≤ x ∧ x ≤ 1000 ∧ -1000 ≤ y ∧ y ≤ 1000) : spotIn (x, y) := spotInR h
theorem spotV_inj (a b : Sp) (h : spotV a = spotV b) : a = b := by
  unfold spotV at h
  simp at h
  exact Prod.ext h.1 h.2
theorem spotKeyW : KeyW Try.prog 54 spotV spotLit spotIn := ⟨spotKeyed, spotKey, spotV_inj⟩
end
end Go.Proofs.Ytbbeinhjkfjipaa
