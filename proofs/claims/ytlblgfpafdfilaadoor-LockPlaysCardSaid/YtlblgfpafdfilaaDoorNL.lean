/-
STAGE 12: the document's Reaches (mathematics): a walk in breadth over pairs finds just what there is a way to. STAGE 12: the document's in and Reaches.
-/
import Derived.Test.YtlblgfpafdfilaaDoorNM
namespace Go.Proofs.YtlblgfpafdfilaaDoor
open Go.RowKit

/-- a way of one pair or more -/
inductive PR (P : List (Nat × Nat)) : Nat → Nat → Prop
  | one {a b : Nat} : (a, b) ∈ P → PR P a b
  | more {a b c : Nat} : PR P a b → (b, c) ∈ P → PR P a c
theorem PR.first {P : List (Nat × Nat)} {a b c : Nat} (h : (a, b) ∈ P) (k : PR P b c) : PR P a c := by
  induction k with
  | one k => exact .more (.one h) k
  | more _ k ih => exact .more ih k
theorem PR.last_in {P : List (Nat × Nat)} {a b : Nat} (h : PR P a b) : b ∈ P.map Prod.snd := by
  cases h with
  | one h => exact List.mem_map.2 ⟨_, h, rfl⟩
  | more _ h => exact List.mem_map.2 ⟨_, h, rfl⟩
/-- ahead of a round -/
structure BF (P : List (Nat × Nat)) (x y : Nat) (S L : List Nat) : Prop where
  left : ∀ u ∈ L, u = x ∨ PR P x u
  seen : ∀ u ∈ S, PR P x u
  no : y ∉ S
  clos : ∀ u, (u = x ∨ u ∈ S) → u ∈ L ∨ ∀ v, (u, v) ∈ P → v ∈ S
  nd : S.Nodup
/-- within a round, u taken out of what is left, i pairs gone through -/
structure BI (P : List (Nat × Nat)) (x y u i : Nat) (S L : List Nat) : Prop where
  left : ∀ a ∈ L, a = x ∨ PR P x a
  seen : ∀ a ∈ S, PR P x a
  no : y ∉ S
  clos : ∀ a, (a = x ∨ a ∈ S) → a ∈ L ∨ (a = u ∧ ∀ v, (u, v) ∈ P.take i → v ∈ S) ∨ ∀ v, (a, v) ∈ P → v ∈ S
  nd : S.Nodup
  here : u = x ∨ PR P x u
theorem BF.start (P : List (Nat × Nat)) (x y : Nat) : BF P x y [] [x] :=
  ⟨fun u hu => Or.inl (List.mem_singleton.1 hu), fun u hu => by simp at hu, by simp, fun u hu => by
    rcases hu with rfl | hu
    · exact Or.inl (by simp)
    · simp at hu, by simp⟩
theorem BF.take {P : List (Nat × Nat)} {x y u : Nat} {S L : List Nat} (h : BF P x y S (u :: L)) : BI P x y u 0 S L :=
  ⟨fun a ha => h.left a (List.mem_cons_of_mem _ ha), h.seen, h.no, fun a ha => by
    rcases h.clos a ha with h | h
    · rcases List.mem_cons.1 h with rfl | h
      · exact Or.inr (Or.inl ⟨rfl, fun v hv => by simp at hv⟩)
      · exact Or.inl h
    · exact Or.inr (Or.inr h), h.nd, h.left u (by simp)⟩
theorem take_more {P : List (Nat × Nat)} {i : Nat} {p : Nat × Nat} (hp : P[i]? = some p) {z : Nat × Nat} (hz : z ∈ P.take (i + 1)) : z ∈ P.take i ∨ z = p := by
  obtain ⟨hk, e⟩ := List.getElem?_eq_some_iff.1 hp
  rw [List.take_succ_eq_append_getElem hk, e] at hz
  rcases List.mem_append.1 hz with h | h
  · exact Or.inl h
  · exact Or.inr (List.mem_singleton.1 h)
theorem BI.skip {P : List (Nat × Nat)} {x y u i : Nat} {S L : List Nat} {p : Nat × Nat} (h : BI P x y u i S L) (hp : P[i]? = some p) (hs : p.1 ≠ u ∨ p.2 ∈ S) : BI P x y u (i + 1) S L :=
  ⟨h.left, h.seen, h.no, fun a ha => by
    rcases h.clos a ha with h | ⟨e, h⟩ | h
    · exact Or.inl h
    · refine Or.inr (Or.inl ⟨e, fun v hv => ?_⟩)
      rcases take_more hp hv with hv | hv
      · exact h v hv
      · subst hv
        rcases hs with hs | hs
        · exact absurd rfl hs
        · exact hs
    · exact Or.inr (Or.inr h), h.nd, h.here⟩
theorem BI.way {P : List (Nat × Nat)} {x y u i : Nat} {S L : List Nat} {p : Nat × Nat} (h : BI P x y u i S L) (hp : P[i]? = some p) (he : p.1 = u) : PR P x p.2 := by
  have hm : (u, p.2) ∈ P := by rw [← he]; exact List.mem_of_getElem? hp
  rcases h.here with e | h
  · rw [← e]; exact .one hm
  · exact .more h hm
theorem BI.add {P : List (Nat × Nat)} {x y u i : Nat} {S L : List Nat} {p : Nat × Nat} (h : BI P x y u i S L) (hp : P[i]? = some p) (he : p.1 = u) (hn : p.2 ∉ S) (hy : p.2 ≠ y) : BI P x y u (i + 1) (S ++ [p.2]) (L ++ [p.2]) := by
  have hw := h.way hp he
  refine ⟨fun a ha => ?_, fun a ha => ?_, fun ha => ?_, fun a ha => ?_, ?_, h.here⟩
  · rcases List.mem_append.1 ha with ha | ha
    · exact h.left a ha
    · rw [List.mem_singleton.1 ha]; exact Or.inr hw
  · rcases List.mem_append.1 ha with ha | ha
    · exact h.seen a ha
    · rw [List.mem_singleton.1 ha]; exact hw
  · rcases List.mem_append.1 ha with ha | ha
    · exact h.no ha
    · exact hy (List.mem_singleton.1 ha).symm
  · have hS : ∀ v, v ∈ S → v ∈ S ++ [p.2] := fun v hv => List.mem_append_left _ hv
    have hold : (a = x ∨ a ∈ S) → a ∈ L ++ [p.2] ∨ (a = u ∧ ∀ v, (u, v) ∈ P.take (i + 1) → v ∈ S ++ [p.2]) ∨ ∀ v, (a, v) ∈ P → v ∈ S ++ [p.2] := fun ha => by
      rcases h.clos a ha with h | ⟨e, h⟩ | h
      · exact Or.inl (List.mem_append_left _ h)
      · refine Or.inr (Or.inl ⟨e, fun v hv => ?_⟩)
        rcases take_more hp hv with hv | hv
        · exact hS v (h v hv)
        · rw [← hv]; simp
      · exact Or.inr (Or.inr fun v hv => hS v (h v hv))
    rcases ha with ha | ha
    · exact hold (Or.inl ha)
    · rcases List.mem_append.1 ha with ha | ha
      · exact hold (Or.inr ha)
      · exact Or.inl (List.mem_append_right _ ha)
  · rw [List.nodup_append]
    exact ⟨h.nd, by simp, fun a ha b hb e => hn (by rw [← List.mem_singleton.1 hb, ← e]; exact ha)⟩
theorem BI.done {P : List (Nat × Nat)} {x y u : Nat} {S L : List Nat} (h : BI P x y u P.length S L) : BF P x y S L :=
  ⟨h.left, h.seen, h.no, fun a ha => by
    rcases h.clos a ha with h | ⟨e, h⟩ | h
    · exact Or.inl h
    · rw [List.take_length] at h
      rw [e]; exact Or.inr h
    · exact Or.inr h, h.nd⟩
theorem BF.end_ {P : List (Nat × Nat)} {x y : Nat} {S : List Nat} (h : BF P x y S []) : ¬ PR P x y := by
  have key : ∀ a b, PR P a b → (a = x ∨ a ∈ S) → b ∈ S := by
    intro a b hr
    induction hr with
    | one hm =>
      intro ha
      rcases h.clos _ ha with h | h
      · simp at h
      · exact h _ hm
    | more _ hm ih =>
      intro ha
      rcases h.clos _ (Or.inr (ih ha)) with h | h
      · simp at h
      · exact h _ hm
  exact fun hr => h.no (key x y hr (Or.inl rfl))
theorem nodup_le : ∀ (S T : List Nat), S.Nodup → (∀ u ∈ S, u ∈ T) → S.length ≤ T.length
  | [], _, _, _ => Nat.zero_le _
  | a :: r, T, hn, h => by
    have ha := h a (by simp)
    have hr := List.nodup_cons.1 hn
    have := nodup_le r (T.erase a) hr.2 fun u hu => (List.mem_erase_of_ne (fun e => hr.1 (by rw [← e]; exact hu))).2 (h u (List.mem_cons_of_mem _ hu))
    rw [List.length_erase_of_mem ha] at this
    have hpos := List.length_pos_of_mem ha
    rw [List.length_cons]
    omega
theorem BF.few {P : List (Nat × Nat)} {x y : Nat} {S L : List Nat} (h : BF P x y S L) : S.length ≤ P.length := by
  have := nodup_le S (P.map Prod.snd) h.nd fun u hu => (h.seen u hu).last_in
  rwa [List.length_map] at this
theorem BI.few {P : List (Nat × Nat)} {x y u i : Nat} {S L : List Nat} (h : BI P x y u i S L) : S.length ≤ P.length := by
  have := nodup_le S (P.map Prod.snd) h.nd fun u hu => (h.seen u hu).last_in
  rwa [List.length_map] at this
end Go.Proofs.YtlblgfpafdfilaaDoor
namespace Go.Proofs.YtlblgfpafdfilaaDoor
open Go.RowKit

theorem nbeq_ (a b : Nat) : ((a : Int) == (b : Int)) = (a == b) := by rw [Bool.eq_iff_iff, beq_iff_eq, beq_iff_eq]; omega
/-- a slice reads as a row of numbers -/
def UR (w : World) (A : Option Addr) (l : List Nat) : Prop := ∀ i x, l[i]? = some x → ∃ b, A = some ⟨b, 0, none⟩ ∧ w.cell? ⟨b, i, none⟩ = some (.int .u32 ((x : Nat) : Int))
theorem UR.up {w w' : World} {A : Option Addr} {l : List Nat} (h : UR w A l) (hb : RowKit.Below w.heap.size w w') : UR w' A l := fun i x hi => by
  obtain ⟨b, e, hc⟩ := h i x hi
  exact ⟨b, e, (hb.cell (block_lt_of_cell hc)).trans hc⟩
theorem OwR.ur {w : World} {A : Option Addr} {n c : Nat} {l : List Nat} (h : OwR w 34 1 uf (.slice A n c) l) : UR w A l := fun i x hi => by
  obtain ⟨b, c', e, _, hat⟩ := h.at_ uf_len hi
  injection e with e1 _ _
  have := hat 0 _ rfl
  exact ⟨b, e1, by simpa using this⟩
set_option maxRecDepth 100000 in
set_option maxHeartbeats 2000000 in
theorem in_any (w : World) (A : Option Addr) (n c : Nat) (l : List Nat) (hlen : l.length = n) (hR : UR w A l) (hn : n ≤ 140737488355328) (x : Nat) :
    Calls Tryd.prog 50 #[.slice A n c, .int .u32 (x : Int)] w fun e w' => e = .returned (.bool (decide (x ∈ l))) ∧ w = w' := by
  have HR := Lib.hid hR
  have HL := Lib.hid hlen
  clear hR hlen
  go_enter Tryd.func50, Tryd.ntmps50
  go_wp2_with fail
  go_loopw [5] (fun i wr => ∃ k : Nat, k ≤ n ∧ i = .int .i64 (k : Int) ∧ x ∉ l.take k ∧ w = wr) (fun i _ => n - (intOf i).toNat)
  case atStart => exact ⟨0, by omega, rfl, by simp, rfl⟩
  case round =>
    obtain ⟨k, hk, rfl, ha, rfl⟩ := hrel
    have HA := Lib.hid ha
    clear ha
    by_cases hlt : k < n
    · have hl : l[k]? = some (l[k]'(by have := HL.out; omega)) := List.getElem?_eq_getElem _
      generalize l[k]'(by have := HL.out; omega) = y at hl
      obtain ⟨b, rfl, hc⟩ := HR.out k y hl
      have HLK := Lib.hid hl
      have hin : ((k : Int) < (n : Int)) := by omega
      have e1 : IntKind.i64.wrap ((k : Int) + 1) = ((k + 1 : Nat) : Int) := by rw [IntWalk.i64_in _ (by omega)]; omega
      have d1 := nbeq_ y x
      obtain ⟨u, hu⟩ : ∃ u, (y == x) = u := ⟨_, rfl⟩
      rw [hu] at d1
      have HU := Lib.hid hu
      clear hl hu
      cases u with
      | true =>
        have HP := Lib.hid (show decide (x ∈ l) = true from decide_eq_true (by have := eq_of_beq HU.out; subst this; exact List.mem_of_getElem? HLK.out))
        go_wp2_with fail
        go_ret
        exact ⟨by rw [HP.out]; rfl, rfl⟩
      | false =>
        have HP := Lib.hid (show x ∉ l.take (k + 1) from fun hm => by
          obtain ⟨hkl, e⟩ := List.getElem?_eq_some_iff.1 HLK.out
          rw [List.take_succ_eq_append_getElem hkl, e] at hm
          rcases List.mem_append.1 hm with hm | hm
          · exact HA.out hm
          · have := List.mem_singleton.1 hm
            have h2 := HU.out
            rw [this] at h2
            simp at h2)
        go_wp2_with fail
        go_roundw
        case rel => exact ⟨k + 1, by omega, by go_num, HP.out, by first | rfl | trivial⟩
        case measure => simp [intOf]; omega
    · obtain rfl : k = n := by omega
      have hin : ¬ ((k : Int) < (k : Int)) := by omega
      have HE := Lib.hid (show decide (x ∈ l) = false from decide_eq_false (by have := HA.out; rwa [← HL.out, List.take_length] at this))
      go_wp2_with fail
      go_ret
      exact ⟨by rw [HE.out]; rfl, rfl⟩
end Go.Proofs.YtlblgfpafdfilaaDoor
