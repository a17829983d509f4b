/-
  STEPS THAT COME IN; THE WALK OF long.
-/
import Derived.Test.YtjblcligkgjbjaaWalkJ
namespace Go.Proofs.Ytjblcligkgjbjaa
open Go.RowKit Go.Sort Go.Maps

/-- a step: what to do, the sector, the bytes, the trip, the keeps -/
structure St where
  k : Int
  a : Int
  A : Option Addr
  m : Nat
  c : Nat
  b : List Nat
  n : Int
  K : Option Addr
  q : Nat
  r : Nat
  keep : List Bool
def St.agg (s : St) : Value := .agg #[.int .i64 s.k, .int .i64 s.a, .slice s.A s.m s.c, .int .i64 s.n, .slice s.K s.q s.r]
/-- what it holds lies below B -/
structure St.In (w : World) (B : Nat) (s : St) : Prop where
  b : RB w (fun x => x < B) s.A s.m s.b
  k : KB w (fun x => x < B) s.K s.q s.keep
  n : s.n ≤ 9223372036854775807
  n2 : -9223372036854775808 ≤ s.n
/-- a row of steps that came in below B -/
def Sts (w : World) (B : Nat) (A : Option Addr) (n : Nat) (l : List St) : Prop :=
  l.length = n ∧ (∀ s ∈ l, s.In w B) ∧ (0 < n → ∃ b o, A = some ⟨b, o, none⟩ ∧ b < B ∧ ∀ i s, l[i]? = some s →
    w.cell? ⟨b, o + i * 5, none⟩ = some (.int .i64 s.k) ∧ w.cell? ⟨b, o + i * 5 + 1, none⟩ = some (.int .i64 s.a) ∧ w.cell? ⟨b, o + i * 5 + 2, none⟩ = some (.slice s.A s.m s.c) ∧
    w.cell? ⟨b, o + i * 5 + 3, none⟩ = some (.int .i64 s.n) ∧ w.cell? ⟨b, o + i * 5 + 4, none⟩ = some (.slice s.K s.q s.r))
section
variable {w w' : World} {B : Nat} {A : Option Addr} {n : Nat} {l : List St} {s : St}
set_option maxRecDepth 100000 in
theorem St.In.below (h : s.In w B) (hb : Below B w w') : s.In w' B :=
  ⟨h.b.below hb fun _ h => h, h.k.move hb.size fun _ _ hs => hb.cell hs, h.n, h.n2⟩
set_option maxRecDepth 100000 in
theorem Sts.below (h : Sts w B A n l) (hb : Below B w w') : Sts w' B A n l := by
  obtain ⟨h1, h2, h3⟩ := h
  refine ⟨h1, fun s hs => (h2 s hs).below hb, fun hn => ?_⟩
  obtain ⟨b, o, e, hlt, hc⟩ := h3 hn
  refine ⟨b, o, e, hlt, fun i s hi => ?_⟩
  obtain ⟨c0, c1, c2, c3, c4⟩ := hc i s hi
  exact ⟨(hb.cell hlt).trans c0, (hb.cell hlt).trans c1, (hb.cell hlt).trans c2, (hb.cell hlt).trans c3, (hb.cell hlt).trans c4⟩
set_option maxRecDepth 100000 in
theorem Sts.at_ (h : Sts w B A n l) {i : Nat} (hi : i < n) : ∃ s b o, l[i]? = some s ∧ A = some ⟨b, o, none⟩ ∧ b < B ∧ s.In w B ∧
    w.cell? ⟨b, o + i * 5, none⟩ = some (.int .i64 s.k) ∧ w.cell? ⟨b, o + i * 5 + 1, none⟩ = some (.int .i64 s.a) ∧ w.cell? ⟨b, o + i * 5 + 2, none⟩ = some (.slice s.A s.m s.c) ∧
    w.cell? ⟨b, o + i * 5 + 3, none⟩ = some (.int .i64 s.n) ∧ w.cell? ⟨b, o + i * 5 + 4, none⟩ = some (.slice s.K s.q s.r) := by
  obtain ⟨h1, h2, h3⟩ := h
  obtain ⟨b, o, e, hlt, hc⟩ := h3 (by omega)
  have hl : i < l.length := by omega
  exact ⟨l[i], b, o, by simp [hl], e, hlt, h2 _ (List.getElem_mem hl), hc i _ (by simp [hl])⟩
end
/-- few enough to be gone through -/
def Few (l : List St) : Prop := l.length ≤ 200 ∧ ∀ s ∈ l, s.m ≤ 1024 ∧ s.q ≤ 400
set_option maxRecDepth 100000 in
theorem long_any (A : Option Addr) (n c : Nat) (l : List St) (w : World) (h : Sts w w.heap.size A n l) (hn : n ≤ 140737488351232) :
    Calls Try.prog 12 #[.slice A n c] w fun e w' => ∃ b, e = .returned (.bool b) ∧ w = w' ∧ (b = false → Few l) := by
  have HH := Lib.hid h
  have hln := h.1
  clear h
  go_enter Try.func12, Try.ntmps12
  go_wp2_with fail
  go_loopw [3] (fun u wr => ∃ i : Nat, u = .int .i64 (i : Int) ∧ i ≤ n ∧ i ≤ 201 ∧ w = wr ∧ ∀ j s, j < i → l[j]? = some s → s.m ≤ 1024 ∧ s.q ≤ 400) (fun u _ => n - (intOf u).toNat)
  case atStart => exact ⟨0, rfl, by omega, by omega, rfl, fun j s h => absurd h (by omega)⟩
  case round =>
    obtain ⟨i, rfl, hi, hi2, rfl, hall⟩ := hrel
    have HA := Lib.hid hall
    clear hall
    by_cases hlt : i < n ∧ i ≤ 200
    · obtain ⟨hl1, hl2⟩ := hlt
      obtain ⟨s, b, o, hs, rfl, _, _, c0, c1, c2, c3, c4⟩ := HH.out.at_ hl1
      have HS := Lib.hid hs
      have h1 : ((i : Int) < (n : Int)) := by omega
      have h2 : ((i : Int) ≤ 200) := by omega
      have hWn : IntKind.i64.wrap ((i : Int) + 1) = ((i + 1 : Nat) : Int) := by rw [IntWalk.i64_in _ (by omega)]; omega
      clear hs c0 c1 c3
      by_cases hm : 1024 < s.m
      · have hmi : ((s.m : Int) > 1024) := by omega
        go_wp2
        go_ret
        exact ⟨true, rfl, rfl, fun h => by cases h⟩
      · have hmi : decide ((s.m : Int) > 1024) = false := by simp; omega
        by_cases hq : 400 < s.q
        · have hqi : ((s.q : Int) > 400) := by omega
          go_wp2
          go_ret
          exact ⟨true, rfl, rfl, fun h => by cases h⟩
        · have hqi : decide ((s.q : Int) > 400) = false := by simp; omega
          go_wp2
          go_roundw
          case rel =>
            refine ⟨i + 1, by go_num, by omega, by omega, by first | rfl | trivial, fun j s' hj hs' => ?_⟩
            rcases Nat.lt_or_ge j i with hji | hji
            · exact HA.out j s' hji hs'
            · obtain rfl : j = i := by omega
              rw [HS.out] at hs'
              cases hs'
              exact ⟨by omega, by omega⟩
          case measure => simp [intOf]; omega
    · by_cases hlt2 : i < n
      · have h1 : ((i : Int) < (n : Int)) := by omega
        have h2 : decide ((i : Int) ≤ 200) = false := by simp; omega
        have h3 : ((n : Int) > 200) := by omega
        go_wp2
        go_ret
        exact ⟨true, rfl, rfl, fun h => by cases h⟩
      · obtain rfl : i = n := by omega
        have h1 : decide ((i : Int) < (i : Int)) = false := by simp
        by_cases h200 : 200 < i
        · have h3 : ((i : Int) > 200) := by omega
          go_wp2
          go_ret
          exact ⟨true, rfl, rfl, fun h => by cases h⟩
        · have h3 : decide ((i : Int) > 200) = false := by simp; omega
          go_wp2
          go_ret
          refine ⟨false, rfl, rfl, fun _ => ⟨by omega, fun s hs => ?_⟩⟩
          obtain ⟨j, hj, e⟩ := List.getElem_of_mem hs
          exact HA.out j s (by omega) (by simp [hj, e])
end Go.Proofs.Ytjblcligkgjbjaa
