/-
  STAGE 12: apart.
-/
import Derived.Test.YtlblgfpafdfilaaDoorMG
namespace Go.Proofs.YtlblgfpafdfilaaDoor
open Go.RowKit Go.Sort

set_option maxRecDepth 100000 in
set_option maxHeartbeats 8000000 in
theorem apart_any (w : World) (A : Option Addr) (n c : Nat) (ls : List LK) (hlen : ls.length = n) (hR : Row w A ls) (hn : n ≤ 16384) (hm : ∀ l ∈ ls, 1 ≤ l.m ∧ l.m ≤ 4)
    (hH : ∀ (i k : Nat) (a b : LK), ls[i]? = some a → ls[k]? = some b → (a.h && b.h && (a.t != b.t) && rmeetM a.x b.x && rconM a.m b.m) = false) :
    Calls Tryd.prog 22 #[.slice A n c] w fun e w' => e = .returned (.bool true) ∧ Below w.heap.size w w' := by
  have HR := Lib.hid hR
  have HL := Lib.hid hlen
  have HM := Lib.hid hm
  have HH := Lib.hid hH
  clear hR hlen hm hH
  go_enter Tryd.func22, Tryd.ntmps22
  go_wp2_with fail
  go_loopw [3] (fun i wr => ∃ k : Nat, k ≤ n ∧ i = .int .i64 (k : Int) ∧ Below w.heap.size w wr) (fun i _ => n - (intOf i).toNat)
  case atStart => exact ⟨0, by omega, rfl, Below.refl _ _⟩
  case round =>
    obtain ⟨i, hi, rfl, hb⟩ := hrel
    have HB := Lib.hid hb
    by_cases hlt : i < n
    · have hl : ls[i]? = some (ls[i]'(by have := HL.out; omega)) := List.getElem?_eq_getElem _
      generalize ls[i]'(by have := HL.out; omega) = a at hl
      obtain ⟨b, rfl, hcs⟩ := HR.out i a hl
      have HA := Lib.hid hl
      have HCA := Lib.hid (hcs.up hb)
      have hin : ((i : Int) < (n : Int)) := by omega
      have e1 : IntKind.i64.wrap ((i : Int) + 1) = ((i + 1 : Nat) : Int) := by rw [IntWalk.i64_in _ (by omega)]; omega
      clear hb hcs hl
      go_wp2_with fail
      go_loopw [4] (fun s wi => ∃ k : Nat, k ≤ i ∧ s = .int .i64 (k : Int) ∧ Below w.heap.size w wi ∧ Below wr.heap.size wr wi) (fun s _ => i - (intOf s).toNat)
      case atStart => exact ⟨0, by omega, rfl, HB.out, Below.refl _ _⟩
      case round =>
        obtain ⟨k, hk, rfl, hb2, hb3⟩ := hrel
        have HB2 := Lib.hid hb2
        have HB3 := Lib.hid hb3
        by_cases hlt2 : k < i
        · have hl : ls[k]? = some (ls[k]'(by have := HL.out; omega)) := List.getElem?_eq_getElem _
          generalize ls[k]'(by have := HL.out; omega) = q at hl
          obtain ⟨b', e', hcs⟩ := HR.out k q hl
          injection e' with e'
          injection e' with e'
          subst e'
          obtain ⟨z0, z1, z2, z3, z4, z5, z6⟩ := (HCA.out.up hb3).rg
          obtain ⟨y0, y1, y2, y3, y4, y5, y6⟩ := (hcs.up hb2).rg
          have hin2 : ((k : Int) < (i : Int)) := by omega
          have hin3 : ((k : Int) < (n : Int)) := by omega
          have e2 : IntKind.i64.wrap ((k : Int) + 1) = ((k + 1 : Nat) : Int) := by rw [IntWalk.i64_in _ (by omega)]; omega
          have hf := HH.out i k a q HA.out hl
          have HC := Lib.hid (fun W' => con49 a.m q.m (HM.out a (List.mem_of_getElem? HA.out)) (HM.out q (List.mem_of_getElem? hl)) W')
          have HE := Lib.hid (fun W' => meet48 a.x q.x W')
          have d1 := nbeq a.t q.t
          obtain ⟨u, hu⟩ : ∃ u, (a.t == q.t) = u := ⟨_, rfl⟩
          have d2 : ((a.t : Int) != (q.t : Int)) = !u := by rw [← hu, ← d1]; rfl
          have d3 : (a.t != q.t) = !u := by rw [← hu]; rfl
          rw [d3] at hf
          clear d1 d3 hu hl hcs hb2 hb3
          generalize rmeetM _ _ = r at HE hf
          generalize rconM _ _ = cc at HC hf
          obtain ⟨lt, ⟨lr, li, la, lb⟩, lm, lh⟩ := a
          obtain ⟨qt, ⟨qr, qi, qa, qb⟩, qm, qh⟩ := q
          simp only [Th.agg] at HC HE z0 z1 z2 z3 z4 z5 z6 y0 y1 y2 y3 y4 y5 y6 d2 hf
          have key : lh = false ∨ (lh = true ∧ qh = false) ∨ (lh = true ∧ qh = true ∧ u = true) ∨ (lh = true ∧ qh = true ∧ u = false ∧ r = false) ∨ (lh = true ∧ qh = true ∧ u = false ∧ r = true ∧ cc = false) := by
            cases lh <;> cases qh <;> cases u <;> cases r <;> cases cc <;> simp at hf ⊢
          clear hf
          rcases key with rfl | ⟨rfl, rfl⟩ | ⟨rfl, rfl, rfl⟩ | ⟨rfl, rfl, rfl, rfl⟩ | ⟨rfl, rfl, rfl, rfl, rfl⟩ <;>
          · go_upto_region 7 with fail
            refine wp_region_quiet_below (by kernel_rfl) (by kernel_rfl) ?_
            repeat (go_big_quiet_step (first | (go_at_call 49; with_reducible exact Calls.regrown_of (HC.out _)) | (go_at_call 48; with_reducible exact Calls.regrown_of (HE.out _))))
            refine wpQuiet_nil ?_
            rintro W3 ⟨pp, hpp⟩
            have HB4 := Lib.hid (show Below wr.heap.size wr W3 by rw [hpp]; exact below_regrown _ _ _)
            clear hpp z0 z1 z2 z3 z4 z5 z6 y0 y1 y2 y3 y4 y5 y6
            go_wp2_with fail
            go_roundw
            case rel => exact ⟨k + 1, by omega, by go_num, HB2.out.trans (HB4.out.mono HB2.out.size), below_trans HB3.out HB4.out⟩
            case measure => simp [intOf]; omega
        · obtain rfl : k = i := by omega
          have hin2 : ¬ ((k : Int) < (k : Int)) := by omega
          clear hb2 hb3
          go_wp2_with fail
          go_roundw
          case rel => exact ⟨k + 1, by omega, by go_num, HB2.out⟩
          case measure => simp [intOf]; omega
    · obtain rfl : i = n := by omega
      have hin : ¬ ((i : Int) < (i : Int)) := by omega
      clear hb
      go_wp2_with fail
      go_ret
      exact ⟨rfl, HB.out⟩
end Go.Proofs.YtlblgfpafdfilaaDoor
