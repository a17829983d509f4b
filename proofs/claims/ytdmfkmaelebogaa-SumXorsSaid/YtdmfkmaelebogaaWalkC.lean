/-
  THE WALKS OF Copy AND ITS KIN: a copy is a row of the call's own that reads as the same bytes.
-/
import Derived.Test.YtdmfkmaelebogaaWalkB
import Derived.Laws.AppendOwnNone
import Derived.Deep.DeepMust
namespace Go.Proofs.Ytdmfkmaelebogaa
open Go.RowKit

theorem info5 : (Try.prog.info? 5).map (fun i => (i.zero, i.size, i.bytes)) = some (some (.int .u8 0), 1, 1) := by kernel_rfl

theorem u8s_length (l : List Nat) : (u8s l).length = l.length := by simp [u8s]
theorem u8s_one (l : List Nat) : ∀ u ∈ u8s l, u.oneCell' = true := by
  intro u hu
  simp only [u8s, List.mem_map] at hu
  obtain ⟨x, _, rfl⟩ := hu
  rfl
theorem RB.cells {w : World} {ad : Addr} {n : Nat} {l : List Nat} (h : RB w (some ad) n l) : ∀ j u, (u8s l)[j]? = some u → w.cell? (ad.add j) = some u := by
  obtain ⟨h1, h2, h3⟩ := h
  intro j u hj
  have hjl : j < l.length := by
    rcases Nat.lt_or_ge j l.length with h | h
    · exact h
    · simp [u8s, List.getElem?_eq_none h] at hj
  obtain ⟨ad', e, _, hc⟩ := h3 (by omega)
  cases e
  rw [hc j (by omega)]
  simp [u8s, List.getElem?_eq_getElem hjl] at hj
  subst hj
  simp [hjl]

/-- a row of the call's own reads as its bytes -/
theorem RB.of_own {w : World} {base n : Nat} {v : Value} {l : List Nat} (h : w.ownsRow base 5 1 v n (u8s l)) (hl : ∀ x ∈ l, x < 256) :
    ∃ A c, v = .slice A n c ∧ n ≤ c ∧ RB w A n l := by
  obtain ⟨h1, h2⟩ := h
  have hn : l.length = n := by simpa [u8s] using h1
  rcases h2 with ⟨rfl, h0⟩ | ⟨g, cap, cur, rfl, _, hg, hc, _, hcur, htake⟩
  · subst h0
    have : l = [] := List.eq_nil_of_length_eq_zero hn
    subst this
    exact ⟨none, 0, rfl, Nat.le_refl _, RB.nil_⟩
  · refine ⟨_, _, rfl, hc, hn, hl, fun _ => ⟨_, rfl, Blk.lt hg, fun j hj => ?_⟩⟩
    have e : (⟨g, 0, none⟩ : Addr).add j = ⟨g, j, none⟩ := by
      unfold Addr.add
      split
      · rename_i h0; rw [h0]
      · simp
    rw [e, Blk.cell hg j]
    have hj2 : (u8s l)[j]? = some (.int .u8 ((l.getD j 0 : Nat) : Int)) := by
      simp [u8s, show j < l.length by omega]
    rw [← htake, List.getElem?_take_of_lt (by omega)] at hj2
    simpa using hj2

theorem copy_some (ad : Addr) (n c : Nat) (l : List Nat) (w : World) (hn : n ≤ 140737488351232) (h : RB w (some ad) n l) :
    Calls Try.prog 9 #[.slice (some ad) n c] w fun e w' => ∃ A' c', e = .returned (.slice A' n c') ∧ n ≤ c' ∧ Below w.heap.size w w' ∧ RB w' A' n l := by
  obtain ⟨i0, hi, hz0, hz1, hz2⟩ := info_parts info5
  have hlen := h.len
  have hlt := h.lt
  have hcells := (h.alloc (.cells #[] 5)).cells
  have hown0 : (w.alloc (.cells #[] 5)).ownsRow w.heap.size 5 1 (.slice (some ⟨w.heap.size, 0, none⟩) 0 0) 0 [] := World.ownsRow_made (e := 5) (size := 1) w #[] 0 (Nat.le_refl _) (by simp [maxLen]) (by simp)
  have HC := Lib.hid hcells
  have HL := Lib.hid hlen
  have HO := Lib.hid hown0
  clear h hcells hlen hown0
  go_enter Try.func9, Try.ntmps9
  go_wp2_with (at_builtin; go_must (refine wpList_append_own _ rfl (.tmp 3) (.tmp 4) 23 rfl w.heap.size 5 i0 (.int .u8 0) 1 1 Try.underlying23 hi hz0 hz1 hz2 rfl (by decide) (.slice (some ⟨w.heap.size, 0, none⟩) 0 0) 0 [] rfl HO.out ad n c (u8s l) rfl (by rw [u8s_length, HL.out]; omega) HC.out (u8s_one l) (by simp only [maxLen]; omega) (by omega) (by simp) ?_); intro v' w1 hown' hgrow _)
  go_ret
  have hown2 : w1.ownsRow w.heap.size 5 1 v' n (u8s l) := by simpa using hown'
  obtain ⟨A, c', rfl, hc', hr⟩ := RB.of_own hown2 hlt
  refine ⟨A, c', rfl, hc', ?_, hr⟩
  exact ((Below.refl _ _).alloc (Nat.le_refl _) _).grown hgrow (by simp) (by simp [Value.ownBlock])
theorem copy_none (w : World) :
    Calls Try.prog 9 #[.slice none 0 0] w fun e w' => ∃ A' c', e = .returned (.slice A' 0 c') ∧ 0 ≤ c' ∧ Below w.heap.size w w' ∧ RB w' A' 0 [] := by
  obtain ⟨i0, hi, hz0, hz1, hz2⟩ := info_parts info5
  have hown0 : (w.alloc (.cells #[] 5)).ownsRow w.heap.size 5 1 (.slice (some ⟨w.heap.size, 0, none⟩) 0 0) 0 [] := World.ownsRow_made (e := 5) (size := 1) w #[] 0 (Nat.le_refl _) (by simp [maxLen]) (by simp)
  have HO := Lib.hid hown0
  clear hown0
  go_enter Try.func9, Try.ntmps9
  go_wp2_with (at_builtin; go_must (refine wpList_append_own_none rfl (.tmp 3) (.tmp 4) 23 rfl w.heap.size 5 i0 1 Try.underlying23 hi _ 0 [] rfl HO.out rfl ?_))
  go_ret
  exact ⟨_, _, rfl, Nat.le_refl _, (Below.refl _ _).alloc (Nat.le_refl _) _, RB.nil_⟩
/-- what comes in: nil, or a slice that reads as bytes -/
def In (w : World) (A : Option Addr) (n c : Nat) (l : List Nat) : Prop := RB w A n l ∧ n ≤ c ∧ n ≤ 140737488351232 ∧ (A = none → c = 0)
theorem copy_any (A : Option Addr) (n c : Nat) (l : List Nat) (w : World) (h : In w A n c l) :
    Calls Try.prog 9 #[.slice A n c] w fun e w' => ∃ A' c', e = .returned (.slice A' n c') ∧ n ≤ c' ∧ Below w.heap.size w w' ∧ RB w' A' n l := by
  obtain ⟨h, hc, hn, h0⟩ := h
  rcases A with _ | ad
  · obtain rfl := h0 rfl
    obtain rfl : n = 0 := by omega
    have hl : l = [] := List.eq_nil_of_length_eq_zero h.1
    subst hl
    exact copy_none w
  · exact copy_some ad n c l w hn h
end Go.Proofs.Ytdmfkmaelebogaa
