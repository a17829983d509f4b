/-
  WORDS FOR A DISK IN MEMORY: sectors and writes as cells, a map of numbers, what is there whole; and the operations on them.
-/
import Derived.Test.YtjblcligkgjbjaaWords
import Derived.Test.YtjblcligkgjbjaaMath
namespace Go.Proofs.Ytjblcligkgjbjaa
open Go.RowKit Go.Sort Go.Maps

/-! ### What has changed, more -/
def setB (w : World) (b : Nat) (o : Obj) : World := { w with heap := w.heap.setIfInBounds b o }
section
variable {a w w' : World} {S T : Nat → Prop} {g : Nat} {t : TypeId} {cs : Array Value}
theorem Fr.setRow (h : Fr a w S) {g : Nat} (hp : S g ∨ a.heap.size ≤ g) (cs : Array Value) : Fr a (w.setRow g cs) S :=
  ⟨h.os, h.tape, h.output, by simpa using h.size, fun b hb hn => (setRow_other w g b cs (by
    rintro rfl
    rcases hp with hp | hp
    · exact hn hp
    · omega)).trans (h.block b hb hn)⟩
theorem Fr.setB_ (h : Fr a w S) {g : Nat} (hp : S g ∨ a.heap.size ≤ g) (o : Obj) : Fr a (setB w g o) S :=
  ⟨h.os, h.tape, h.output, by simpa [setB] using h.size, fun b hb hn => by
    have hne : g ≠ b := by
      rintro rfl
      rcases hp with hp | hp
      · exact hn hp
      · omega
    have : (setB w g o).heap[b]? = w.heap[b]? := by simp [setB, Array.getElem?_setIfInBounds_ne hne]
    exact this.trans (h.block b hb hn)⟩
theorem Blk.row (h : Blk w g t cs) (ds : Array Value) : Blk (w.setRow g ds) g t ds := setRow_heap w g cs ds t _ h
theorem Blk.rowFar (h : Blk w g t cs) {g' : Nat} (hne : g ≠ g') (ds : Array Value) : Blk (w.setRow g' ds) g t cs := (setRow_other w g' g ds hne).trans h
theorem Blk.size_ {ds : Array Value} (h : Blk w g t cs) (h' : Blk w g t ds) : cs = ds := by
  unfold Blk at h h'
  rw [h] at h'
  injection h' with h'
  injection h'
end

/-! ### Sectors as cells -/
def secs (k : List (List Nat)) : List Value := u8s k.flatten
theorem secs_len {k : List (List Nat)} (h : ∀ s ∈ k, Sec s) : (secs k).length = k.length * 512 := by
  rw [secs, u8s_length]
  induction k with
  | nil => rfl
  | cons s r ih =>
    have h1 := (h s (by simp)).1
    have h2 := ih fun x hx => h x (by simp [hx])
    simp only [List.flatten_cons, List.length_append, List.length_cons, h1, h2]
    omega
theorem flat_at {k : List (List Nat)} (h : ∀ s ∈ k, Sec s) : ∀ a, a < k.length → ∃ l r, k.flatten = l ++ k.getD a [] ++ r ∧ l.length = a * 512 ∧ ∀ s, (k.set a s).flatten = l ++ s ++ r := by
  induction k with
  | nil => intro a ha; simp at ha
  | cons s k ih =>
    intro a ha
    cases a with
    | zero => exact ⟨[], k.flatten, by simp, rfl, fun s' => by simp⟩
    | succ a =>
      obtain ⟨l, r, e1, e2, e3⟩ := ih (fun x hx => h x (by simp [hx])) a (by simpa using ha)
      refine ⟨s ++ l, r, ?_, ?_, fun s' => ?_⟩
      · simp only [List.flatten_cons, e1, List.getD_cons_succ, List.append_assoc]
      · have := (h s (by simp)).1
        simp only [List.length_append, this, e2]
        omega
      · simp only [List.set_cons_succ, List.flatten_cons, e3, List.append_assoc]
theorem secs_at {k : List (List Nat)} (h : ∀ s ∈ k, Sec s) {a : Nat} (ha : a < k.length) : ∀ j v, (u8s (k.getD a []))[j]? = some v → (secs k)[a * 512 + j]? = some v := by
  obtain ⟨l, r, e1, e2, _⟩ := flat_at h a ha
  intro j v hv
  have hj : j < (u8s (k.getD a [])).length := (List.getElem?_eq_some_iff.1 hv).1
  rw [secs, e1, u8s_append, u8s_append, List.append_assoc, List.getElem?_append_right (by rw [u8s_length]; omega), u8s_length, e2, Nat.add_sub_cancel_left, List.getElem?_append_left hj]
  exact hv
theorem secs_set {k : List (List Nat)} (h : ∀ s ∈ k, Sec s) {a : Nat} (ha : a < k.length) (s : List Nat) :
    (secs k).take (a * 512) ++ u8s s ++ (secs k).drop (a * 512 + 512) = secs (k.set a s) := by
  obtain ⟨l, r, e1, e2, e3⟩ := flat_at h a ha
  have hk := (h _ (getD_mem (z := []) ha)).1
  rw [secs, secs, e1, e3, u8s_append, u8s_append, u8s_append, u8s_append]
  have el : (u8s l).length = a * 512 := by rw [u8s_length, e2]
  have ek : (u8s (k.getD a [])).length = 512 := by rw [u8s_length, hk]
  have t1 : (u8s l ++ u8s (k.getD a []) ++ u8s r).take (a * 512) = u8s l := by rw [List.append_assoc, ← el, List.take_left]
  have t2 : (u8s l ++ u8s (k.getD a []) ++ u8s r).drop (a * 512 + 512) = u8s r := by
    have e : a * 512 + 512 = (u8s l ++ u8s (k.getD a [])).length := by rw [List.length_append, el, ek]
    rw [e, List.drop_left]
  rw [t1, t2]

/-! ### Writes as cells -/
def wcs (c : List (Nat × List Nat)) : List Value := c.flatMap fun x => .int .i64 (x.1 : Int) :: u8s x.2
theorem wcs_len {c : List (Nat × List Nat)} (h : ∀ x ∈ c, Sec x.2) : (wcs c).length = c.length * 513 := by
  induction c with
  | nil => rfl
  | cons x r ih =>
    have h1 := (h x (by simp)).1
    have h2 := ih fun y hy => h y (by simp [hy])
    simp only [wcs] at h2 ⊢
    simp only [List.flatMap_cons, List.length_append, List.length_cons, u8s_length, h1, h2]
    omega
theorem wcs_append (c d : List (Nat × List Nat)) : wcs (c ++ d) = wcs c ++ wcs d := by simp [wcs]
theorem wcs_one (c : List (Nat × List Nat)) : ∀ u ∈ wcs c, u.oneCell' = true := by
  intro u hu
  simp only [wcs, List.mem_flatMap, List.mem_cons] at hu
  obtain ⟨x, _, rfl | hu⟩ := hu
  · rfl
  · exact u8s_one _ u hu
theorem wcs_at {c : List (Nat × List Nat)} (h : ∀ x ∈ c, Sec x.2) : ∀ p, p < c.length → ∀ j v, (Value.int .i64 ((c.getD p (0, [])).1 : Int) :: u8s (c.getD p (0, [])).2)[j]? = some v → (wcs c)[p * 513 + j]? = some v := by
  induction c with
  | nil => intro p hp; simp at hp
  | cons x c ih =>
    intro p hp j v hv
    have h1 := (h x (by simp)).1
    cases p with
    | zero =>
      have hj := (List.getElem?_eq_some_iff.1 hv).1
      simp only [wcs, List.flatMap_cons, Nat.zero_mul, Nat.zero_add]
      exact (List.getElem?_append_left hj).trans hv
    | succ p =>
      have hi := ih (fun y hy => h y (by simp [hy])) p (by simpa using hp) j v hv
      simp only [wcs, List.flatMap_cons] at hi ⊢
      rw [List.getElem?_append_right (by simp only [List.length_cons, u8s_length, h1]; omega)]
      simp only [List.length_cons, u8s_length, h1]
      rw [show (p + 1) * 513 + j - (512 + 1) = p * 513 + j by omega]
      exact hi

/-- v is a slice of the writes c; its block, if it has one, is one of S -/
def CR (w : World) (S : Nat → Prop) (v : Value) (c : List (Nat × List Nat)) : Prop :=
  w.ownsRow 0 72 513 v c.length (wcs c) ∧ ∀ k, v.ownBlock = some k → S k
section
variable {w w' : World} {v : Value} {c : List (Nat × List Nat)} {S T : Nat → Prop}
theorem CR.mono (h : CR w S v c) (hd : ∀ b, b < w.heap.size → S b → T b) : CR w T v c := ⟨h.1, fun k hk => hd k (h.1.lt k hk).2 (h.2 k hk)⟩
theorem CR.keep (h : CR w S v c) (hf : Fr w w' T) (hd : ∀ b, S b → ¬ T b) : CR w' S v c := by
  obtain ⟨⟨h1, h2⟩, h4⟩ := h
  refine ⟨⟨h1, ?_⟩, h4⟩
  rcases h2 with h2 | ⟨g, cap, cur, hv, hg, hh, r⟩
  · exact Or.inl h2
  · exact Or.inr ⟨g, cap, cur, hv, hg, (hf.block g (Blk.lt hh) (hd g (h4 g (by rw [hv]; rfl)))).trans hh, r⟩
/-- all but other blocks stays -/
theorem CR.stays (h : CR w S v c) (hk : ∀ g, v.ownBlock = some g → w'.heap[g]? = w.heap[g]?) : CR w' S v c := by
  obtain ⟨⟨h1, h2⟩, h4⟩ := h
  refine ⟨⟨h1, ?_⟩, h4⟩
  rcases h2 with h2 | ⟨g, cap, cur, hv, hg, hh, r⟩
  · exact Or.inl h2
  · exact Or.inr ⟨g, cap, cur, hv, hg, (hk g (by rw [hv]; rfl)).trans hh, r⟩
theorem CR.nil_ (w : World) (S : Nat → Prop) : CR w S (.slice none 0 0) [] := ⟨World.ownsRow_nil w 0 72 513, fun k hk => by simp [Value.ownBlock] at hk⟩
/-- what it looks like -/
theorem CR.look (h : CR w S v c) : (v = .slice none 0 0 ∧ c = []) ∨ ∃ g cap cur, v = .slice (some ⟨g, 0, none⟩) c.length cap ∧ S g ∧ Blk w g 72 cur ∧ c.length ≤ cap ∧ cap ≤ maxLen ∧ cur.size = cap * 513 ∧ cur.toList.take (c.length * 513) = wcs c := by
  obtain ⟨⟨h1, h2⟩, h4⟩ := h
  rcases h2 with ⟨rfl, h0⟩ | ⟨g, cap, cur, rfl, _, hh, hc, hm, hs, ht⟩
  · exact Or.inl ⟨rfl, List.eq_nil_of_length_eq_zero h0⟩
  · refine Or.inr ⟨g, cap, cur, rfl, h4 g rfl, hh, hc, hm, hs, ht⟩
end

/-! ### A map of numbers -/
/-- Block M is a map of at most n entries: a number a has the number f a. -/
def IM (w : World) (M : Nat) (f : Nat → Option Nat) (n : Nat) : Prop :=
  ∃ es clock, w.heap[M]? = some (.map es clock) ∧ es.size ≤ n ∧ (es.toList.map (·.key)).Nodup ∧
    (∀ x ∈ es.toList, ∃ a p : Nat, a < 4294967296 ∧ x.key = .int .i64 (a : Int) ∧ x.val = .int .i64 (p : Int) ∧ f a = some p) ∧ ∀ a p, f a = some p → ∃ x ∈ es.toList, x.key = .int .i64 (a : Int)
theorem keyed3 : Keyed Try.prog 3 := int_keyed Try.underlying3
theorem key3 {a : Nat} (h : a < 4294967296) : keyOf Try.prog 3 (.int .i64 (a : Int)) = some (.int .i64 (a : Int)) :=
  keyOf_int_mk Try.underlying3 (by simp [Lit.wf, IntKind.min, IntKind.max, IntKind.signed, IntKind.bits]; omega)
theorem zero3 (w : World) : (zeroValue 3).run Try.prog w = .ok (.int .i64 0) w := by kernel_rfl
section
variable {w w' : World} {M n : Nat} {f : Nat → Option Nat}
theorem IM.lt (h : IM w M f n) : M < w.heap.size := by
  obtain ⟨es, clock, hb, _⟩ := h
  exact (Array.getElem?_eq_some_iff.1 hb).1
theorem IM.stays (h : IM w M f n) (hk : w'.heap[M]? = w.heap[M]?) : IM w' M f n := by
  obtain ⟨es, clock, hb, r⟩ := h
  exact ⟨es, clock, hk.trans hb, r⟩
theorem IM.new (w : World) : IM (w.alloc (.map #[] 0)) w.heap.size (fun _ => none) 0 :=
  ⟨#[], 0, heap_alloc_new w _, Nat.le_refl _, by simp, by simp, fun _ _ h => by cases h⟩
theorem IM.ne_blk (h : IM w M f n) {g : Nat} {t : TypeId} {cs : Array Value} (hg : Blk w g t cs) : g ≠ M := by
  rintro rfl
  obtain ⟨es, clock, hb, _⟩ := h
  unfold Blk at hg
  rw [hb] at hg
  cases hg
theorem IM.look (h : IM w M f n) {a : Nat} (ha : a < 4294967296) :
    (Instr.lookup 63 (.map (some M)) (.int .i64 (a : Int)) true).run Try.prog w = .ok (.tuple #[.int .i64 ((f a).getD 0 : Nat), .bool (f a).isSome]) w := by
  obtain ⟨es, clock, hb, _, _, h1, h2⟩ := h
  have hks : ∀ e ∈ es.toList, ∃ l, keyOf Try.prog 3 e.key = some l := fun e he => by
    obtain ⟨x, p, hx, hk, _⟩ := h1 e he
    rw [hk]; exact ⟨_, key3 hx⟩
  rcases keyed3.find w (key3 ha) es.toList hks with ⟨e1, e2⟩ | ⟨j, e0, e1, e2, e3⟩
  · have hf : f a = none := by
      cases hf : f a with
      | none => rfl
      | some p =>
        obtain ⟨x, hx, hk⟩ := h2 a p hf
        exact absurd hk (e2 x hx)
    simp [Instr.lookup, run_underlying Try.underlying63, MapKept.run_getObj_map hb, keyed3.check w _ (key3 ha), e1, Result.andThen, hf]
  · obtain ⟨x, p, _, hk, hv, hf⟩ := h1 e0 (List.mem_of_getElem? e2)
    have hxa : x = a := by
      rw [e3] at hk
      injection hk with _ hk
      omega
    subst hxa
    simp [Instr.lookup, run_underlying Try.underlying63, MapKept.run_getObj_map hb, keyed3.check w _ (key3 ha), e1, Result.andThen, hf, hv]
theorem IM.put (h : IM w M f n) {a p : Nat} (ha : a < 4294967296) (f' : Nat → Option Nat) (hf' : ∀ x, f' x = if a = x then some p else f x) :
    ∃ o, (Instr.mapUpdate 63 (.map (some M)) (.int .i64 (a : Int)) (.int .i64 (p : Int))).run Try.prog w = .ok () (setB w M o) ∧ IM (setB w M o) M f' (n + 1) := by
  have hlt := h.lt
  obtain ⟨es, clock, hb, hn, hnd, h1, h2⟩ := h
  have hks : ∀ e ∈ es.toList, ∃ l, keyOf Try.prog 3 e.key = some l := fun e he => by
    obtain ⟨x, p, hx, hk, _⟩ := h1 e he
    rw [hk]; exact ⟨_, key3 hx⟩
  have hset : ∀ o, (setB w M o).heap[M]? = some o := fun o => by simp [setB, hlt]
  have ne_of : ∀ {x : Nat}, a ≠ x → (Value.int .i64 (a : Int)) ≠ .int .i64 (x : Int) := fun hx e => by injection e with _ e; omega
  rcases keyed3.find w (key3 ha) es.toList hks with ⟨e1, e2⟩ | ⟨j, e0, e1, e2, e3⟩
  · refine ⟨.map (es.push ⟨.int .i64 (a : Int), .int .i64 (p : Int), clock⟩) (clock + 1), ?_, _, _, hset _, by simp; omega, ?_, ?_, ?_⟩
    · simp [Instr.mapUpdate, run_underlying Try.underlying63, MapKept.run_getObj_map hb, keyed3.check w _ (key3 ha), e1, MapKept.run_setObj_map _ hb, Result.andThen, setB]
    · simp only [Array.toList_push, List.map_append, List.map_cons, List.map_nil]
      refine List.nodup_append.2 ⟨hnd, by simp, ?_⟩
      intro x hx y hy e
      simp only [List.mem_map] at hx
      obtain ⟨z, hz, rfl⟩ := hx
      simp only [List.mem_singleton] at hy
      exact e2 z hz (e.trans hy)
    · intro x hx
      simp only [Array.toList_push, List.mem_append, List.mem_singleton] at hx
      rcases hx with hx | rfl
      · obtain ⟨y, q, hy, hk, hv, hf⟩ := h1 x hx
        refine ⟨y, q, hy, hk, hv, ?_⟩
        rw [hf', if_neg]
        · exact hf
        · rintro rfl; exact e2 x hx hk
      · exact ⟨a, p, ha, rfl, rfl, by rw [hf', if_pos rfl]⟩
    · intro y q hy
      rw [hf'] at hy
      by_cases e : a = y
      · subst e
        exact ⟨⟨.int .i64 (a : Int), .int .i64 (p : Int), clock⟩, by simp, rfl⟩
      · rw [if_neg e] at hy
        obtain ⟨x, hx, hk⟩ := h2 y q hy
        exact ⟨x, by simp [hx], hk⟩
  · have hj : es[j]? = some e0 := by simpa using e2
    have hjl : j < es.toList.length := (List.getElem?_eq_some_iff.1 e2).1
    have hlist : (es.modify j (fun e' => { e' with key := .int .i64 (a : Int), val := .int .i64 (p : Int) })).toList = es.toList.set j { e0 with key := .int .i64 (a : Int), val := .int .i64 (p : Int) } := by
      rw [Array.toList_modify, ChangeMaps.modify_eq_set _ _ _ _ e2]
    refine ⟨.map (es.modify j fun e' => { e' with key := .int .i64 (a : Int), val := .int .i64 (p : Int) }) clock, ?_, _, _, hset _, by simp; omega, ?_, ?_, ?_⟩
    · simp [Instr.mapUpdate, run_underlying Try.underlying63, MapKept.run_getObj_map hb, keyed3.check w _ (key3 ha), e1, hj, e3, keyed3.stays w (key3 ha), MapKept.run_setObj_map _ hb, Result.andThen, setB]
    · rw [hlist, List.map_set]
      have : (es.toList.map (·.key)).set j (Value.int .i64 (a : Int)) = es.toList.map (·.key) := by
        apply List.ext_getElem?
        intro i
        by_cases hi : j = i
        · subst hi
          rw [List.getElem?_set_self (by simpa using hjl)]
          simp [e2, e3]
        · rw [List.getElem?_set_ne hi]
      rw [this]
      exact hnd
    · intro x hx
      rw [hlist] at hx
      obtain ⟨i, hi, ex⟩ := List.getElem_of_mem hx
      rw [List.getElem_set] at ex
      split at ex
      · exact ⟨a, p, ha, by rw [← ex], by rw [← ex], by rw [hf', if_pos rfl]⟩
      · rename_i hne
        have hi' : i < es.toList.length := by simpa using hi
        have hx' : x ∈ es.toList := ex ▸ List.getElem_mem hi'
        obtain ⟨y, q, hy, hk, hv, hf⟩ := h1 x hx'
        refine ⟨y, q, hy, hk, hv, ?_⟩
        rw [hf', if_neg]
        · exact hf
        · rintro rfl
          have a1 : (es.toList.map (·.key))[i]? = some (Value.int .i64 (a : Int)) := by simp [List.getElem?_eq_getElem hi', ex, hk]
          have a2 : (es.toList.map (·.key))[j]? = some (Value.int .i64 (a : Int)) := by simp [e2, e3]
          exact hne ((List.getElem?_inj (by simpa using hjl) hnd).1 (a2.trans a1.symm))
    · intro y q hy
      rw [hf'] at hy
      rw [hlist]
      by_cases e : a = y
      · subst e
        exact ⟨{ e0 with key := .int .i64 (a : Int), val := .int .i64 (p : Int) }, List.mem_iff_getElem.2 ⟨j, by simpa using hjl, by simp⟩, rfl⟩
      · rw [if_neg e] at hy
        obtain ⟨x, hx, hk⟩ := h2 y q hy
        obtain ⟨i, hi, ex⟩ := List.getElem_of_mem hx
        have hne : j ≠ i := by
          rintro rfl
          have : e0 = x := by rw [List.getElem?_eq_getElem hi] at e2; cases e2; exact ex
          subst this
          rw [e3] at hk
          exact ne_of e hk
        exact ⟨x, List.mem_iff_getElem.2 ⟨i, by simpa using hi, by rw [List.getElem_set_ne hne, ex]⟩, hk⟩
theorem IM.clear (h : IM w M f n) (ty : TypeId) : ∃ o, (Builtin.clear_ #[63] ty #[.map (some M)]).run Try.prog w = .ok (.tuple #[]) (setB w M o) ∧ IM (setB w M o) M (fun _ => none) 0 := by
  have hlt := h.lt
  obtain ⟨es, clock, hb, _⟩ := h
  refine ⟨.map #[] clock, ?_, #[], clock, by simp [setB, hlt], Nat.le_refl _, by simp, by simp, fun _ _ h => by cases h⟩
  simp [Builtin.clear_, run_underlying Try.underlying63, MapKept.run_getObj_map hb, MapKept.run_setObj_map _ hb, Result.andThen, setB]
end
end Go.Proofs.Ytjblcligkgjbjaa
