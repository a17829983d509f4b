/-
STAGE 12: a nil table's Has and Release; acts that come in; long.
-/
import Derived.Test.YtlblgfpafdfilaaDoorMA
namespace Go.Proofs.YtlblgfpafdfilaaDoor
open Go.RowKit Go.Sort

set_option maxRecDepth 100000 in
set_option maxHeartbeats 1000000 in
theorem has_nil (w : World) (t : Nat) (x : Th) (m : Int) (hA : x.a.size ≤ 9223372036854775807) (hB : x.b.size ≤ 9223372036854775807) :
    Calls Tryd.prog 21 #[.pointer none, .int .u32 (t : Int), x.agg, .int .i64 m] w fun e w' => e = .returned (.bool false) ∧ Below w.heap.size w w' := by
  obtain ⟨W, hW, hb, b1, b2, b3⟩ := boxes3 w t x m
  have HB := Lib.hid hb
  have HM := Lib.hid (fun W => may_any x m hA hB W)
  obtain ⟨c0, c1, c2, c3⟩ := blk36 b2
  have d0 := b3.cell 0
  simp only [List.getElem?_toArray, List.getElem?_cons_zero] at d0
  have HON := Lib.hid (fun W => orNone_at W)
  have HS := Lib.hid (fun (W' : World) (g : Nat) (h : TR W' g none 0 []) => some_any 45 (Or.inr (Or.inl rfl)) #[.pointer (some ⟨w.heap.size, 0, none⟩), .pointer (some ⟨w.heap.size + 1 + 1, 0, none⟩), .pointer (some ⟨w.heap.size + 1, 0, none⟩)] (fun _ => false) g none 0 [] W' h (fun k l b hl => by simp at hl))
  obtain ⟨xr, xi, xa, xb⟩ := x
  generalize mayM _ _ = my at HM
  simp only [Th.agg, box36, tcs] at hW HM c0 c1 c2 c3 ⊢
  clear hb b1 b2 b3 hA hB
  cases my
  · go_enter Tryd.func21, Tryd.ntmps21
    go_upto_region 1 with fail
    clear hW
    go_wp2_with (go_at_call 41; with_reducible refine (HM.out _).mono ?_; rintro e w1 ⟨rfl, hb1⟩; have HB1 := Lib.hid hb1; clear hb1)
    go_ret
    exact ⟨rfl, below_trans HB.out HB1.out⟩
  · go_enter Tryd.func21, Tryd.ntmps21
    go_upto_region 1 with fail
    clear hW
    go_wp2_with (first
      | (go_at_call 41; with_reducible refine (HM.out _).mono ?_; rintro e w1 ⟨rfl, hb1⟩; have HB1 := Lib.hid hb1; clear hb1)
      | (go_at_call 31; with_reducible refine (HON.out _).mono ?_; rintro e w2 ⟨rfl, ht2, hb2⟩; have HT2 := Lib.hid ht2; have HB2 := Lib.hid hb2; clear ht2 hb2)
      | (go_at_call 42; with_reducible refine (HS.out _ _ HT2.out).mono ?_; rintro e w3 ⟨rfl, hb3⟩; have HB3 := Lib.hid hb3; clear hb3))
    go_ret
    exact ⟨by simp, below_trans (below_trans (below_trans HB.out HB1.out) HB2.out) HB3.out⟩
set_option maxRecDepth 100000 in
theorem release_nil (w : World) (t : Nat) : Calls Tryd.prog 19 #[.pointer none, .int .u32 (t : Int)] w fun e w' => e = .returned (.slice none 0 0) ∧ Below w.heap.size w w' := by
  have HB := Lib.hid (show Below w.heap.size w (w.alloc (.cells #[.int .u32 (t : Int)] 34)) from (Below.refl _ _).alloc (Nat.le_refl _) _)
  go_enter Tryd.func19, Tryd.ntmps19
  go_wp2_with fail
  go_ret
  exact ⟨rfl, HB.out⟩
/-- an act -/
structure AV where
  d : Int
  t : Nat
  x : Th
  m : Int
structure AV.Ok (v : AV) : Prop where
  t : v.t < 4294967296
  i : v.x.i < 4294967296
  a : v.x.a.size ≤ 9223372036854775807
  b : v.x.b.size ≤ 9223372036854775807
/-- its cells -/
def As (w : World) (g o : Nat) (v : AV) : Prop :=
  w.cell? ⟨g, o, none⟩ = some (.int .i64 v.d) ∧ w.cell? ⟨g, o + 1, none⟩ = some (.int .u32 (v.t : Int)) ∧ w.cell? ⟨g, o + 2, none⟩ = some (.bool v.x.r) ∧ w.cell? ⟨g, o + 3, none⟩ = some (.int .u32 (v.x.i : Int)) ∧ w.cell? ⟨g, o + 4, none⟩ = some (.string v.x.a) ∧ w.cell? ⟨g, o + 5, none⟩ = some (.string v.x.b) ∧ w.cell? ⟨g, o + 6, none⟩ = some (.int .i64 v.m)
theorem As.lt {w : World} {g o : Nat} {v : AV} (h : As w g o v) : g < w.heap.size := block_lt_of_cell h.1
theorem As.below {w w' : World} {B g o : Nat} {v : AV} (h : As w g o v) (hb : RowKit.Below B w w') (hg : g < B) : As w' g o v := by
  have k := hb.block g hg
  exact ⟨(World.cell?_of_block k).trans h.1, (World.cell?_of_block k).trans h.2.1, (World.cell?_of_block k).trans h.2.2.1, (World.cell?_of_block k).trans h.2.2.2.1, (World.cell?_of_block k).trans h.2.2.2.2.1, (World.cell?_of_block k).trans h.2.2.2.2.2.1, (World.cell?_of_block k).trans h.2.2.2.2.2.2⟩
/-- acts that come in -/
structure AR (w : World) (A : Option Addr) (n : Nat) (l : List AV) : Prop where
  len : l.length = n
  ok : ∀ v ∈ l, v.Ok
  le : n ≤ 140737488355328
  at_ : ∀ i v, l[i]? = some v → ∃ g o, A = some ⟨g, o, none⟩ ∧ As w g (o + i * 7) v
theorem AR.up {w w' : World} {A : Option Addr} {n : Nat} {l : List AV} (h : AR w A n l) (hb : RowKit.Below w.heap.size w w') : AR w' A n l :=
  ⟨h.len, h.ok, h.le, fun i v hi => by
    obtain ⟨g, o, e, ha⟩ := h.at_ i v hi
    exact ⟨g, o, e, ha.below hb ha.lt⟩⟩
/-- few enough, and short enough -/
def FewA (l : List AV) : Prop := l.length ≤ 120 ∧ ∀ v ∈ l, v.x.a.size ≤ 1000 ∧ v.x.b.size ≤ 1000
def LongO (w : World) (l : List AV) (e : Ending) (w' : World) : Prop := ∃ r, e = .returned (.bool r) ∧ w' = w ∧ (r = false → FewA l)
theorem LongO.out {w : World} {l : List AV} {e : Ending} {w' : World} (h : LongO w l e w') : ∃ r, e = .returned (.bool r) ∧ w' = w ∧ (r = false → FewA l) := h
set_option maxRecDepth 100000 in
set_option maxHeartbeats 2000000 in
theorem long_any (w : World) (A : Option Addr) (n c : Nat) (l : List AV) (h : AR w A n l) : Calls Tryd.prog 8 #[.slice A n c] w (LongO w l) := by
  have H := Lib.hid h
  have HL := Lib.hid h.le
  clear h
  go_enter Tryd.func8, Tryd.ntmps8
  go_wp2
  go_loopw [3] (fun i wr => ∃ k : Nat, k ≤ n ∧ k ≤ 121 ∧ i = .int .i64 (k : Int) ∧ (∀ v ∈ l.take k, v.x.a.size ≤ 1000 ∧ v.x.b.size ≤ 1000) ∧ w = wr) (fun i _ => n - (intOf i).toNat)
  case atStart => exact ⟨0, by omega, by omega, rfl, by simp, rfl⟩
  case round =>
    obtain ⟨k, hk, hk2, rfl, hs, rfl⟩ := hrel
    have HS := Lib.hid hs
    clear hs
    by_cases hlt : k < n
    · by_cases hlt2 : k ≤ 120
      · have hl : l[k]? = some (l[k]'(by have := H.out.len; omega)) := List.getElem?_eq_getElem _
        generalize l[k]'(by have := H.out.len; omega) = v at hl
        obtain ⟨g, o, rfl, ha⟩ := H.out.at_ k v hl
        have HV := Lib.hid hl
        obtain ⟨_, _, _, _, z4, z5, _⟩ := ha
        have hin : ((k : Int) < (n : Int)) := by omega
        have hin2 : decide ((k : Int) ≤ 120) = true := decide_eq_true (by omega)
        have e1 : IntKind.i64.wrap ((k : Int) + 1) = ((k + 1 : Nat) : Int) := by rw [IntWalk.i64_in _ (by omega)]; omega
        obtain ⟨p, hp⟩ : ∃ p, decide (1000 < v.x.a.size) = p := ⟨_, rfl⟩
        obtain ⟨q, hq⟩ : ∃ q, decide (1000 < v.x.b.size) = q := ⟨_, rfl⟩
        have hp2 : decide ((v.x.a.size : Int) > 1000) = p := by rw [← hp, decide_eq_decide]; omega
        have hq2 : decide ((v.x.b.size : Int) > 1000) = q := by rw [← hq, decide_eq_decide]; omega
        have HP := Lib.hid hp
        have HQ := Lib.hid hq
        clear hl hp hq
        cases p with
        | true =>
          go_wp2_with fail
          go_ret
          exact ⟨true, rfl, rfl, fun h => by cases h⟩
        | false =>
          cases q with
          | true =>
            go_wp2_with fail
            go_ret
            exact ⟨true, rfl, rfl, fun h => by cases h⟩
          | false =>
            go_wp2_with fail
            go_roundw
            case rel =>
              refine ⟨k + 1, by omega, by omega, by go_num, fun y hy => ?_, by first | rfl | trivial⟩
              obtain ⟨hkl, e⟩ := List.getElem?_eq_some_iff.1 HV.out
              rw [List.take_succ_eq_append_getElem hkl, e] at hy
              rcases List.mem_append.1 hy with hy | hy
              · exact HS.out y hy
              · rw [List.mem_singleton.1 hy]
                have h1 := of_decide_eq_false HP.out
                have h2 := of_decide_eq_false HQ.out
                omega
            case measure => simp [intOf]; omega
      · have hin : ((k : Int) < (n : Int)) := by omega
        have hin2 : decide ((k : Int) ≤ 120) = false := decide_eq_false (by omega)
        have hgt : decide ((n : Int) > 120) = true := decide_eq_true (by omega)
        go_wp2_with fail
        go_ret
        exact ⟨true, rfl, rfl, fun h => by cases h⟩
    · obtain rfl : k = n := by omega
      have hin : ¬ ((k : Int) < (k : Int)) := by omega
      obtain ⟨r, hr⟩ : ∃ r, decide (120 < k) = r := ⟨_, rfl⟩
      have hgt : decide ((k : Int) > 120) = r := by rw [← hr, decide_eq_decide]; omega
      have HR := Lib.hid hr
      clear hr
      go_wp2_with fail
      go_ret
      refine ⟨r, rfl, rfl, fun h => ⟨?_, fun v hv => HS.out v ?_⟩⟩
      · subst h
        have := of_decide_eq_false HR.out
        have := H.out.len
        omega
      · rw [← H.out.len, List.take_length]; exact hv
end Go.Proofs.YtlblgfpafdfilaaDoor
