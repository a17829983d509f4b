/-
STAGE 12: LockNobody's walk.
-/
import Derived.Test.YtlblgfpafdfilaaDoorMB
namespace Go.Proofs.YtlblgfpafdfilaaDoor.lockNobody
open Go.RowKit Go.Sort

theorem all_nilN (w : World) : Calls Tryd.prog 12 #[.pointer none] w fun e w' => ∃ A c, e = .returned (.slice A 0 c) ∧ Below w.heap.size w w' :=
  (all_nil w).mono fun e w' ⟨v, he, hn⟩ => by
    obtain ⟨A, c, hv, _⟩ := hn.1.form
    exact ⟨A, c, by rw [he, hv]; rfl, hn.2.1⟩
theorem waits_nilN (w : World) (hg : Gw w) : Calls Tryd.prog 13 #[.pointer none] w fun e w' => ∃ A c, e = .returned (.slice A 0 c) ∧ Below w.heap.size w w' :=
  (waits_nil w hg).mono fun e w' ⟨v, he, ho, hb⟩ => by
    obtain ⟨A, c, hv, _⟩ := ho.form
    exact ⟨A, c, by rw [he, hv]; rfl, hb⟩
theorem act_cells {w : World} {g : Nat} {vd vm : Int} {vt xi : Nat} {xr : Bool} {xa xb : ByteArray} (h : Blk w g 38 #[.int .i64 vd, .int .u32 (vt : Int), .bool xr, .int .u32 (xi : Int), .string xa, .string xb, .int .i64 vm]) :
    w.cell? ⟨g, 1, none⟩ = some (.int .u32 (vt : Int)) ∧ w.cell? ⟨g, 2, none⟩ = some (.bool xr) ∧ w.cell? ⟨g, 3, none⟩ = some (.int .u32 (xi : Int)) ∧ w.cell? ⟨g, 4, none⟩ = some (.string xa) ∧ w.cell? ⟨g, 5, none⟩ = some (.string xb) ∧ w.cell? ⟨g, 6, none⟩ = some (.int .i64 vm) :=
  ⟨h.cell 1, h.cell 2, h.cell 3, h.cell 4, h.cell 5, h.cell 6⟩
set_option maxRecDepth 100000 in
set_option maxHeartbeats 4000000 in
theorem walked (A : Option Addr) (n c : Nat) (l : List AV) (w : World) (h : AR w A n l) (hg : Gw w) : Calls Tryd.prog 7 #[.slice A n c] w fun e w' => e = .returned (.bool true) ∧ Below w.heap.size w w' := by
  have H := Lib.hid h
  have HG := Lib.hid hg
  have HLG := Lib.hid (long_any w A n c l h)
  have HAL := Lib.hid (fun W (hb : Below w.heap.size w W) => alive_any W (hg.below hb))
  have HLE := Lib.hid h.le
  clear h hg
  go_enter Tryd.func7, Tryd.ntmps7
  go_wp2_with (first
    | (go_at_call 8; with_reducible refine HLG.out.mono ?_; intro e w1 hl; obtain ⟨r, he, hw, hr⟩ := LongO.out hl; subst he; subst hw; clear hr hl)
    | (go_at_call 9; with_reducible refine (HAL.out _ (Below.refl _ _)).mono ?_; rintro e w2 ⟨rfl, hb2⟩))
  · go_ret
    exact ⟨rfl, hb2⟩
  · have hr0 : r = false := by assumption
    subst hr0
    go_loopw [4] (fun i wr => ∃ k : Nat, k ≤ n ∧ i = .int .i64 (k : Int) ∧ Below w1.heap.size w1 wr) (fun i _ => n - (intOf i).toNat)
    case atStart => exact ⟨0, by omega, rfl, Below.refl _ _⟩
    case round =>
      obtain ⟨k, hk, rfl, hb⟩ := hrel
      have HB := Lib.hid hb
      by_cases hlt : k < n
      · have hl : l[k]? = some (l[k]'(by have := H.out.len; omega)) := List.getElem?_eq_getElem _
        generalize l[k]'(by have := H.out.len; omega) = v at hl
        obtain ⟨g, o, rfl, ha⟩ := (H.out.up hb).at_ k v hl
        have hv := H.out.ok v (List.mem_of_getElem? hl)
        obtain ⟨z0, z1, z2, z3, z4, z5, z6⟩ := ha
        have hin : ((k : Int) < (n : Int)) := by omega
        have e1 : IntKind.i64.wrap ((k : Int) + 1) = ((k + 1 : Nat) : Int) := by rw [IntWalk.i64_in _ (by have := HLE.out; omega)]; omega
        have HAN := Lib.hid (fun W => ask_nil v.t v.x v.m W)
        have HRN := Lib.hid (fun W => release_nil W v.t)
        have HHN := Lib.hid (fun W => has_nil W v.t v.x v.m hv.a hv.b)
        obtain ⟨vd, vt, ⟨xr, xi, xa, xb⟩, vm⟩ := v
        simp only [Th.agg] at HAN HRN HHN z0 z1 z2 z3 z4 z5 z6
        obtain ⟨w2, hw2⟩ : ∃ w2, w2 = wr.alloc (.cells #[.int .i64 vd, .int .u32 (vt : Int), .bool xr, .int .u32 (xi : Int), .string xa, .string xb, .int .i64 vm] 38) := ⟨_, rfl⟩
        have hb2 : Below wr.heap.size wr w2 := by rw [hw2]; exact (Below.refl _ _).alloc (Nat.le_refl _) _
        have hk2 : Blk w2 wr.heap.size 38 #[.int .i64 vd, .int .u32 (vt : Int), .bool xr, .int .u32 (xi : Int), .string xa, .string xb, .int .i64 vm] := by rw [hw2]; exact Blk.new _ _ _
        have HK2 := Lib.hid hk2
        have HB2 := Lib.hid (below_trans HB.out hb2)
        have HC := Lib.hid (fun W (h : Below w2.heap.size w2 W) => act_cells (hk2.below h hk2.lt))
        obtain ⟨k1, k2, k3, k4, k5, k6⟩ := act_cells hk2
        clear hb hl hv hb2 hk2
        go_upto_region 8 with fail
        rw [← hw2]
        clear hw2 z0 z1 z2 z3 z4 z5 z6
        go_wp2_with (first
          | (go_at_call 20; with_reducible refine (HAN.out _).mono ?_; rintro e w3 ⟨rfl, hb3⟩; have HB3 := Lib.hid hb3; obtain ⟨k1, k2, k3, k4, k5, k6⟩ := HC.out _ hb3; clear hb3)
          | (go_at_call 19; with_reducible refine (HRN.out _).mono ?_; rintro e w4 ⟨rfl, hb4⟩; have HB4 := Lib.hid (below_trans HB3.out hb4); obtain ⟨k1, k2, k3, k4, k5, k6⟩ := HC.out _ HB4.out; clear hb4)
          | (go_at_call 21; with_reducible refine (HHN.out _).mono ?_; rintro e w5 ⟨rfl, hb5⟩; have HB5 := Lib.hid (below_trans HB4.out hb5); clear hb5))
        go_roundw
        case rel => exact ⟨k + 1, by omega, by go_num, below_trans HB2.out HB5.out⟩
        case measure => simp [intOf]; omega
      · obtain rfl : k = n := by omega
        have hin : ¬ ((k : Int) < (k : Int)) := by omega
        clear hb
        have HGK := Lib.hid (fun W (h : Below w1.heap.size w1 W) => HG.out.below h)
        go_wp2_with (first
          | (go_at_call 12; with_reducible refine (all_nilN _).mono ?_; rintro e w2 ⟨A2, c2, rfl, hb2⟩; have HB2 := Lib.hid (below_trans HB.out hb2); clear hb2)
          | (go_at_call 13; with_reducible refine (waits_nilN _ (HGK.out _ HB2.out)).mono ?_; rintro e w3 ⟨A3, c3, rfl, hb3⟩; have HB3 := Lib.hid (below_trans HB2.out hb3); clear hb3)
          | (go_at_call 17; with_reducible refine (victim_nil _ (HGK.out _ HB3.out)).mono ?_; rintro e w4 ⟨rfl, hb4⟩; have HB4 := Lib.hid (below_trans HB3.out hb4); clear hb4)
          | (go_at_call 9; with_reducible refine (HAL.out _ HB4.out).mono ?_; rintro e w5 ⟨rfl, hb5⟩; have HB5 := Lib.hid (below_trans HB4.out hb5); clear hb5))
        go_ret
        exact ⟨by simp, HB5.out⟩
end Go.Proofs.YtlblgfpafdfilaaDoor.lockNobody
