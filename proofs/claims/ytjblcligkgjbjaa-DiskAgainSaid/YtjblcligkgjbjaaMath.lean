/-
  THE PLAIN MATHEMATICS OF STAGE 6: texts and bytes; a disk's sectors, its cache, its trip. No program.
-/
import Derived.Lib.Small
import Derived.Laws.Strings
import Derived.ShutString
namespace Go.Proofs.Ytjblcligkgjbjaa

/-- two texts are one -/
def seq (a b : ByteArray) : Bool := a.toList == b.toList
theorem seq_refl (a : ByteArray) : seq a a = true := by simp [seq]
theorem toList_inj {a b : ByteArray} (h : a.toList = b.toList) : a = b := by
  rw [ByteArray.toList_eq, ByteArray.toList_eq] at h
  obtain ⟨⟨x⟩⟩ := a
  obtain ⟨⟨y⟩⟩ := b
  simp at h
  subst h
  rfl
theorem seq_eq {a b : ByteArray} : seq a b = true ↔ a = b := by
  constructor
  · intro h; exact toList_inj (by simpa [seq] using h)
  · rintro rfl; exact seq_refl _
/-- a string's bytes, and the string of bytes -/
def sb (s : ByteArray) : List Nat := s.data.toList.map UInt8.toNat
def bs (l : List Nat) : ByteArray := ⟨(l.map UInt8.ofNat).toArray⟩
theorem bs_size (l : List Nat) : (bs l).size = l.length := by
  show (l.map UInt8.ofNat).toArray.size = _
  simp
theorem sb_bs (l : List Nat) (h : ∀ x ∈ l, x < 256) : sb (bs l) = l := by
  simp only [sb, bs, List.map_map]
  rw [List.map_congr_left (g := id)]
  · simp
  · intro x hx
    have := h x hx
    simp [Nat.mod_eq_of_lt this]
theorem bs_inj {l m : List Nat} (hl : ∀ x ∈ l, x < 256) (hm : ∀ x ∈ m, x < 256) (h : bs l = bs m) : l = m := by
  rw [← sb_bs l hl, h, sb_bs m hm]
/-- the text of bytes as the walk compares it -/
def eqb (l m : List Nat) : Bool := seq (bs l) (bs m)
theorem eqb_refl (l : List Nat) : eqb l l = true := seq_refl _
theorem eqb_iff {l m : List Nat} (hl : ∀ x ∈ l, x < 256) (hm : ∀ x ∈ m, x < 256) : eqb l m = true ↔ l = m :=
  ⟨fun h => bs_inj hl hm (seq_eq.1 h), fun h => h ▸ eqb_refl l⟩

/-! ### A disk -/
/-- one more -/
def up (n : Int) : Int := IntKind.i64.wrap (n + 1)
structure DS where
  kept : List (List Nat)
  cache : List (Nat × List Nat)
  trip : Int
  dark : Bool
  rd : Int
  wr : Int
  sy : Int

/-- a sector's bytes -/
def Sec (s : List Nat) : Prop := s.length = 512 ∧ ∀ x ∈ s, x < 256
structure DS.Ok (d : DS) : Prop where
  pos : 0 < d.kept.length
  few : d.kept.length ≤ 8192
  sec : ∀ s ∈ d.kept, Sec s
  cac : ∀ c ∈ d.cache, c.1 < d.kept.length ∧ Sec c.2
  tr1 : -1 ≤ d.trip
  tr2 : d.trip ≤ 9223372036854775807
  drk : d.dark = true → d.trip = -1

/-- does an operation come to be done? -/
def DS.may (d : DS) : Bool := if d.dark then false else if d.trip = 0 then false else true
/-- behind it -/
def DS.next (d : DS) : DS := if d.dark then d else if d.trip = 0 then { d with dark := true, trip := -1 } else if 0 < d.trip then { d with trip := d.trip - 1 } else d
/-- a sector as it was written last -/
def seenN (c : List (Nat × List Nat)) (a : Nat) (b : List Nat) : Nat → List Nat
  | 0 => b
  | n + 1 => if (c.getD n (0, [])).1 = a then (c.getD n (0, [])).2 else seenN c a b n
def DS.seen (d : DS) (a : Nat) : List Nat := seenN d.cache a (d.kept.getD a []) d.cache.length
/-- the place of its last write -/
def placeN (c : List (Nat × List Nat)) (a : Nat) : Nat → Option Nat
  | 0 => none
  | n + 1 => if (c.getD n (0, [])).1 = a then some n else placeN c a n
/-- the first n writes last -/
def setN (k : List (List Nat)) (c : List (Nat × List Nat)) : Nat → List (List Nat)
  | 0 => k
  | n + 1 => (setN k c n).set (c.getD n (0, [])).1 (c.getD n (0, [])).2
/-- those of the first n whose keep is true -/
def cutN (k : List (List Nat)) (c : List (Nat × List Nat)) (keep : List Bool) : Nat → List (List Nat)
  | 0 => k
  | n + 1 => if keep.getD n false then (cutN k c keep n).set (c.getD n (0, [])).1 (c.getD n (0, [])).2 else cutN k c keep n

def DS.read (d : DS) : DS := { d with rd := up d.rd }
def DS.write (d : DS) (a : Nat) (b : List Nat) : DS := { d with wr := up d.wr, cache := d.cache ++ [(a, b)] }
def DS.sync (d : DS) : DS := { d with sy := up d.sy, kept := setN d.kept d.cache d.cache.length, cache := [] }
def DS.cut (d : DS) (keep : List Bool) : DS := { d with kept := cutN d.kept d.cache keep d.cache.length, cache := [], dark := false, trip := -1 }
/-- a trip is laid; nothing is said of a disk that is dark -/
def DS.arm (d : DS) (n : Int) : DS := if d.dark then d else { d with trip := max n (-1) }
def DS.image (d : DS) : List Nat := d.kept.flatten
/-- a sector of noughts -/
def zsec : List Nat := List.replicate 512 0
def DS.new (n : Nat) : DS := ⟨List.replicate n zsec, [], -1, false, 0, 0, 0⟩

theorem Sec.zero : Sec zsec := ⟨List.length_replicate, fun x hx => by rw [zsec] at hx; rw [List.eq_of_mem_replicate hx]; omega⟩
theorem DS.new_ok {n : Nat} (h : 0 < n) (h2 : n ≤ 8192) : (DS.new n).Ok :=
  ⟨by simp only [DS.new, List.length_replicate]; exact h, by simp only [DS.new, List.length_replicate]; exact h2, fun s hs => by rw [List.eq_of_mem_replicate hs]; exact Sec.zero, (fun c hc => by cases hc), (by simp only [DS.new]; omega), (by simp only [DS.new]; omega), (fun h => by cases h)⟩

theorem setN_len (k : List (List Nat)) (c : List (Nat × List Nat)) : ∀ n, (setN k c n).length = k.length
  | 0 => rfl
  | n + 1 => by simp [setN, setN_len k c n]
theorem cutN_len (k : List (List Nat)) (c : List (Nat × List Nat)) (keep : List Bool) : ∀ n, (cutN k c keep n).length = k.length
  | 0 => rfl
  | n + 1 => by unfold cutN; split <;> simp [cutN_len k c keep n]
theorem mem_set {α : Type} {l : List α} {i : Nat} {x y : α} (h : y ∈ l.set i x) : y ∈ l ∨ y = x := by
  rcases List.mem_or_eq_of_mem_set h with h | h
  · exact Or.inl h
  · exact Or.inr h
theorem getD_mem {α : Type} {l : List α} {n : Nat} {z : α} (h : n < l.length) : l.getD n z ∈ l := by
  rw [List.getD_eq_getElem?_getD, List.getElem?_eq_getElem h]; exact List.getElem_mem h
theorem setN_sec {k : List (List Nat)} {c : List (Nat × List Nat)} {m : Nat} (hk : ∀ s ∈ k, Sec s) (hc : ∀ x ∈ c, x.1 < m ∧ Sec x.2) : ∀ n, n ≤ c.length → ∀ s ∈ setN k c n, Sec s
  | 0, _ => hk
  | n + 1, h => fun s hs => by
    rcases mem_set hs with hs | rfl
    · exact setN_sec hk hc n (by omega) s hs
    · exact (hc _ (getD_mem (by omega))).2
theorem cutN_sec {k : List (List Nat)} {c : List (Nat × List Nat)} {m : Nat} (keep : List Bool) (hk : ∀ s ∈ k, Sec s) (hc : ∀ x ∈ c, x.1 < m ∧ Sec x.2) : ∀ n, n ≤ c.length → ∀ s ∈ cutN k c keep n, Sec s
  | 0, _ => hk
  | n + 1, h => fun s hs => by
    unfold cutN at hs
    split at hs
    · rcases mem_set hs with hs | rfl
      · exact cutN_sec keep hk hc n (by omega) s hs
      · exact (hc _ (getD_mem (by omega))).2
    · exact cutN_sec keep hk hc n (by omega) s hs

theorem DS.Ok.next {d : DS} (h : d.Ok) : d.next.Ok := by
  unfold DS.next
  split
  · exact h
  · split
    · exact ⟨h.pos, h.few, h.sec, h.cac, by simp, by simp, fun _ => rfl⟩
    · rename_i hd h0
      split
      · have := h.tr1; have := h.tr2
        exact ⟨h.pos, h.few, h.sec, h.cac, by simp only; omega, by simp only; omega, fun e => absurd e hd⟩
      · exact h
theorem DS.Ok.read {d : DS} (h : d.Ok) : d.read.Ok := ⟨h.pos, h.few, h.sec, h.cac, h.tr1, h.tr2, h.drk⟩
theorem DS.Ok.write {d : DS} (h : d.Ok) {a : Nat} {b : List Nat} (ha : a < d.kept.length) (hb : Sec b) : (d.write a b).Ok :=
  ⟨h.pos, h.few, h.sec, fun c hc => by
    rcases List.mem_append.1 hc with hc | hc
    · exact h.cac c hc
    · rw [List.mem_singleton] at hc; subst hc; exact ⟨ha, hb⟩, h.tr1, h.tr2, h.drk⟩
theorem DS.Ok.sync {d : DS} (h : d.Ok) : d.sync.Ok :=
  ⟨by simpa [DS.sync, setN_len] using h.pos, by simpa [DS.sync, setN_len] using h.few, setN_sec h.sec h.cac _ (Nat.le_refl _), fun c hc => by simp [DS.sync] at hc, h.tr1, h.tr2, h.drk⟩
theorem DS.Ok.cut {d : DS} (h : d.Ok) (keep : List Bool) : (d.cut keep).Ok :=
  ⟨by simpa [DS.cut, cutN_len] using h.pos, by simpa [DS.cut, cutN_len] using h.few, cutN_sec keep h.sec h.cac _ (Nat.le_refl _), fun c hc => by simp [DS.cut] at hc, by simp [DS.cut], by simp [DS.cut], fun e => by simp [DS.cut] at e⟩
theorem DS.Ok.arm {d : DS} (h : d.Ok) {n : Int} (hn : n ≤ 9223372036854775807) : (d.arm n).Ok := by
  unfold DS.arm
  split
  · exact h
  · rename_i hd
    exact ⟨h.pos, h.few, h.sec, h.cac, by simp only; omega, by simp only; omega, fun e => absurd e hd⟩

/-- the last write of a sector by its place -/
theorem seen_place (c : List (Nat × List Nat)) (a : Nat) (b : List Nat) : ∀ n, seenN c a b n = match placeN c a n with | some p => (c.getD p (0, [])).2 | none => b
  | 0 => rfl
  | n + 1 => by
    unfold seenN placeN
    split
    · rfl
    · exact seen_place c a b n
theorem place_lt (c : List (Nat × List Nat)) (a p : Nat) : ∀ n, placeN c a n = some p → p < n
  | 0, h => by cases h
  | n + 1, h => by
    unfold placeN at h
    split at h
    · cases h; omega
    · have := place_lt c a p n h; omega
theorem place_append (c e : List (Nat × List Nat)) (a : Nat) : ∀ n, n ≤ c.length → placeN (c ++ e) a n = placeN c a n
  | 0, _ => rfl
  | n + 1, h => by
    have e1 : (c ++ e).getD n (0, []) = c.getD n (0, []) := by
      simp [List.getD_eq_getElem?_getD, List.getElem?_append_left (show n < c.length by omega)]
    unfold placeN
    rw [e1, place_append c e a n (by omega)]
theorem place_push (c : List (Nat × List Nat)) (a x : Nat) (b : List Nat) : placeN (c ++ [(a, b)]) x (c.length + 1) = if a = x then some c.length else placeN c x c.length := by
  rw [placeN, place_append c _ x _ (Nat.le_refl _)]
  simp only [List.getD_eq_getElem?_getD, List.getElem?_append_right (Nat.le_refl _), Nat.sub_self, List.getElem?_cons_zero, Option.getD_some]
theorem seen_sec {d : DS} (h : d.Ok) {a : Nat} (ha : a < d.kept.length) : Sec (d.seen a) := by
  unfold DS.seen
  rw [seen_place]
  cases hp : placeN d.cache a d.cache.length with
  | none => exact h.sec _ (getD_mem ha)
  | some p => exact (h.cac _ (getD_mem (place_lt _ _ _ _ hp))).2
end Go.Proofs.Ytjblcligkgjbjaa
