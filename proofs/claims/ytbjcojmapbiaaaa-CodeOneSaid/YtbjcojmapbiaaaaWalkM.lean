/-
  ITEMS IN MEMORY; THE WALK OF long.
-/
import Derived.Test.YtbjcojmapbiaaaaWalkL
namespace Go.Proofs.Ytbjcojmapbiaaaa
open Go.RowKit

structure It where
  k : Int
  x : Nat
  s : ByteArray
  n : Int
structure It.Ok (it : It) : Prop where
  k1 : -9223372036854775808 ≤ it.k
  k2 : it.k ≤ 9223372036854775807
  x1 : it.x < 18446744073709551616
  s1 : it.s.size ≤ 9223372036854775807
  n1 : -9223372036854775808 ≤ it.n
  n2 : it.n ≤ 9223372036854775807
def It.agg (it : It) : Value := .agg #[.int .i64 it.k, .int .u64 (it.x : Int), .string it.s, .int .i64 it.n]

/-- The slice of items '.slice A n c' reads as its; they lie in a block that is older than B. -/
def Its (w : World) (B : Nat) (A : Option Addr) (n : Nat) (its : List It) : Prop :=
  its.length = n ∧ (∀ it ∈ its, it.Ok) ∧ (0 < n → ∃ b o, A = some ⟨b, o, none⟩ ∧ b < B ∧ ∀ i it, its[i]? = some it →
    w.cell? ⟨b, o + i * 4, none⟩ = some (.int .i64 it.k) ∧ w.cell? ⟨b, o + i * 4 + 1, none⟩ = some (.int .u64 (it.x : Int)) ∧ w.cell? ⟨b, o + i * 4 + 2, none⟩ = some (.string it.s) ∧ w.cell? ⟨b, o + i * 4 + 3, none⟩ = some (.int .i64 it.n))
theorem Its.at_ {w : World} {B : Nat} {A : Option Addr} {n : Nat} {its : List It} (h : Its w B A n its) {i : Nat} (hi : i < n) : ∃ b o it, A = some ⟨b, o, none⟩ ∧ b < B ∧ its[i]? = some it ∧ it.Ok ∧
    w.cell? ⟨b, o + i * 4, none⟩ = some (.int .i64 it.k) ∧ w.cell? ⟨b, o + i * 4 + 1, none⟩ = some (.int .u64 (it.x : Int)) ∧ w.cell? ⟨b, o + i * 4 + 2, none⟩ = some (.string it.s) ∧ w.cell? ⟨b, o + i * 4 + 3, none⟩ = some (.int .i64 it.n) := by
  obtain ⟨h1, h2, h3⟩ := h
  obtain ⟨b, o, e, hB, hc⟩ := h3 (by omega)
  have hl : i < its.length := by omega
  have hg : its[i]? = some its[i] := List.getElem?_eq_getElem hl
  exact ⟨b, o, its[i], e, hB, hg, h2 _ (List.getElem_mem hl), hc i _ hg⟩
theorem Its.below {w w' : World} {B : Nat} {A : Option Addr} {n : Nat} {its : List It} (h : Its w B A n its) (hb : Below B w w') : Its w' B A n its := by
  obtain ⟨h1, h2, h3⟩ := h
  refine ⟨h1, h2, fun hn => ?_⟩
  obtain ⟨b, o, e, hB, hc⟩ := h3 hn
  refine ⟨b, o, e, hB, fun i it hi => ?_⟩
  obtain ⟨c0, c1, c2, c3⟩ := hc i it hi
  exact ⟨(hb.cell (p := ⟨b, _, none⟩) hB).trans c0, (hb.cell (p := ⟨b, _, none⟩) hB).trans c1, (hb.cell (p := ⟨b, _, none⟩) hB).trans c2, (hb.cell (p := ⟨b, _, none⟩) hB).trans c3⟩

/-- how many bytes the first items' texts have, each counted up to a bound -/
def tally : List It → Nat
  | [] => 0
  | it :: r => min it.s.size 1048577 + tally r
theorem tally_snoc (l : List It) (it : It) : tally (l ++ [it]) = tally l + min it.s.size 1048577 := by
  induction l with
  | nil => simp [tally]
  | cons a r ih => simp only [List.cons_append, tally, ih]; omega
theorem tally_le (l : List It) : tally l ≤ l.length * 1048577 := by
  induction l with
  | nil => simp [tally]
  | cons a r ih => simp only [tally, List.length_cons, Nat.add_mul]; omega
def longB (its : List It) : Bool := decide (300 < its.length) || decide (1048576 < tally (its.take 301))

set_option maxRecDepth 100000 in
set_option maxHeartbeats 1000000 in
theorem long_any (w : World) (B : Nat) (A : Option Addr) (n c : Nat) (its : List It) (h : Its w B A n its) (hn : n ≤ 140737488351232) :
    Calls Try.prog 9 #[.slice A n c] w fun e w' => e = .returned (.bool (longB its)) ∧ w = w' := by
  have HI := Lib.hid h
  clear h
  go_enter Try.func9, Try.ntmps9
  go_wp2
  go_loop [3, 4] (fun t i => ∃ (k s : Nat), k ≤ n ∧ k ≤ 301 ∧ i = .int .i64 (k : Int) ∧ s = tally (its.take k) ∧ t = .int .i64 (s : Int)) (fun _ i => 301 - (intOf i).toNat)
  case atStart => exact ⟨0, 0, by omega, by omega, rfl, by simp [tally], rfl⟩
  case round =>
    obtain ⟨k, s, hk, hk3, rfl, hs, rfl⟩ := hrel
    have hsl : s ≤ k * 1048577 := by
      rw [hs]
      refine Nat.le_trans (tally_le _) (Nat.mul_le_mul_right _ ?_)
      simp; omega
    have HS := Lib.hid hs
    clear hs
    by_cases hlt : k < n ∧ k ≤ 300
    · obtain ⟨h1, h2⟩ := hlt
      obtain ⟨b, o, it, rfl, _, hit, hok, c0, c1, c2, c3⟩ := HI.out.at_ h1
      have HIT := Lib.hid hit
      have hs1 := hok.s1
      clear hit hok
      go_wp2
      all_goals
        go_round
        case rel =>
          refine ⟨k + 1, s + min it.s.size 1048577, by omega, by omega, by go_num, ?_, ?_⟩
          · have e : its.take (k + 1) = its.take k ++ [it] := by
              have hl : k < its.length := by have := HI.out.1; omega
              rw [List.take_succ_eq_append_getElem hl]
              have := HIT.out
              rw [List.getElem?_eq_getElem hl] at this
              injection this with this
              rw [this]
            rw [e, tally_snoc, HS.out]
          · refine congrArg _ ?_
            split <;> omega
        case measure => simp [intOf]; omega
    · have hl := HI.out.1
      by_cases hn3 : 300 < n
      · have hB : longB its = true := by
          unfold longB
          rw [hl]
          simp [hn3]
        have HB := Lib.hid hB
        clear hB
        have hkk : 300 < k := by omega
        clear hl
        go_wp2
        all_goals
          go_ret
          rw [HB.out]
          refine ⟨?_, rfl⟩
          first
          | rfl
          | (refine congrArg (fun b => Ending.returned (Value.bool b)) ?_
             simp
             omega)
      · obtain rfl : k = n := by omega
        have hsl2 : tally (its.take 301) = s := by
          rw [HS.out, List.take_of_length_le (by omega), List.take_of_length_le (by omega)]
        by_cases hs : 1048576 < s
        · have hB : longB its = true := by
            unfold longB
            rw [hsl2]
            simp [hs]
          have HB := Lib.hid hB
          clear hB
          clear hl hsl2
          go_wp2
          all_goals
            go_ret
            rw [HB.out]
            refine ⟨?_, rfl⟩
            first
            | rfl
            | (refine congrArg (fun b => Ending.returned (Value.bool b)) ?_
               simp
               omega)
        · have hB : longB its = false := by
            unfold longB
            rw [hsl2, hl]
            simp [hs, hn3]
          have HB := Lib.hid hB
          clear hB
          clear hl hsl2
          go_wp2
          all_goals
            go_ret
            rw [HB.out]
            refine ⟨?_, rfl⟩
            first
            | rfl
            | (refine congrArg (fun b => Ending.returned (Value.bool b)) ?_
               simp
               omega)

/-- what is not too long: at most 300 items, of at most 2^20 bytes together -/
theorem longB_no {its : List It} (h : longB its = false) : its.length ≤ 300 ∧ (∀ it ∈ its, it.s.size ≤ 1048576) ∧ ∀ k, ((its.take k).map fun it => it.s.size).sum ≤ 1048576 := by
  unfold longB at h
  simp only [Bool.or_eq_false_iff, decide_eq_false_iff_not, Nat.not_lt] at h
  obtain ⟨h1, h2⟩ := h
  rw [List.take_of_length_le (by omega)] at h2
  have key : ∀ l : List It, tally l ≤ 1048576 → (∀ it ∈ l, it.s.size ≤ 1048576) ∧ ∀ k, ((l.take k).map fun it => it.s.size).sum ≤ tally l := by
    intro l
    induction l with
    | nil => intro _; simp
    | cons a r ih =>
      intro h
      simp only [tally] at h
      obtain ⟨i1, i2⟩ := ih (by omega)
      refine ⟨fun it hit => ?_, fun k => ?_⟩
      · simp only [List.mem_cons] at hit
        rcases hit with rfl | hit
        · omega
        · exact i1 it hit
      · match k with
        | 0 => simp
        | k + 1 =>
          have := i2 k
          simp only [List.take_succ_cons, List.map_cons, List.sum_cons, tally]
          omega
  obtain ⟨k1, k2⟩ := key its h2
  exact ⟨h1, k1, fun k => Nat.le_trans (k2 k) h2⟩
end Go.Proofs.Ytbjcojmapbiaaaa
