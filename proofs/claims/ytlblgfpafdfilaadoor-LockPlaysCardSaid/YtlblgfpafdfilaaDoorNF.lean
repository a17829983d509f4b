/-
STAGE 12: LockEnds' waiting.
-/
import Derived.Test.YtlblgfpafdfilaaDoorNA
namespace Go.Proofs.YtlblgfpafdfilaaDoor
open Go.RowKit Go.Sort

set_option maxRecDepth 100000 in
set_option maxHeartbeats 2000000 in
theorem waiting_any (w : World) (A : Option Addr) (n c : Nat) (ls : List LK) (hlen : ls.length = n) (hR : Row w A ls) (hn : n ≤ 16384) (t : Nat) :
    Calls Tryd.prog 24 #[.slice A n c, .int .u32 (t : Int)] w fun e w' => e = .returned (.bool (ls.any (waitsP t))) ∧ Below w.heap.size w w' := by
  have HR := Lib.hid hR
  have HL := Lib.hid hlen
  clear hR hlen
  go_enter Tryd.func24, Tryd.ntmps24
  go_wp2_with fail
  go_loopw [5] (fun i wr => ∃ k : Nat, k ≤ n ∧ i = .int .i64 (k : Int) ∧ (ls.take k).any (waitsP t) = false ∧ Below w.heap.size w wr) (fun i _ => n - (intOf i).toNat)
  case atStart => exact ⟨0, by omega, rfl, by simp, Below.refl _ _⟩
  case round =>
    obtain ⟨k, hk, rfl, ha, hb⟩ := hrel
    have HB := Lib.hid hb
    have HA := Lib.hid ha
    clear ha
    by_cases hlt : k < n
    · have hl : ls[k]? = some (ls[k]'(by have := HL.out; omega)) := List.getElem?_eq_getElem _
      generalize ls[k]'(by have := HL.out; omega) = l at hl
      obtain ⟨b, rfl, hcs⟩ := HR.out k l hl
      obtain ⟨z0, z1, z2, z3, z4, z5, z6⟩ := hcs.up hb
      have HLK := Lib.hid hl
      have hin : ((k : Int) < (n : Int)) := by omega
      have e1 : IntKind.i64.wrap ((k : Int) + 1) = ((k + 1 : Nat) : Int) := by rw [IntWalk.i64_in _ (by omega)]; omega
      have d1 := nbeq l.t t
      obtain ⟨u, hu⟩ : ∃ u, (l.t == t) = u := ⟨_, rfl⟩
      obtain ⟨h, hh⟩ : ∃ h, l.h = h := ⟨_, rfl⟩
      rw [hu] at d1
      rw [hh] at z6
      clear hb hcs hl
      have key : (u = true ∧ h = false) ∨ (u = true ∧ h = true) ∨ u = false := by cases u <;> cases h <;> simp
      rcases key with ⟨rfl, rfl⟩ | ⟨rfl, rfl⟩ | rfl
      · have HP := Lib.hid (any_at HLK.out (P := waitsP t) (by unfold waitsP; rw [hu, hh]; rfl))
        clear hu hh
        go_wp2_with fail
        go_ret
        exact ⟨by rw [HP.out]; rfl, HB.out⟩
      · have HP := Lib.hid (any_take HLK.out HA.out (P := waitsP t) (by unfold waitsP; rw [hu, hh]; rfl))
        clear hu hh
        go_wp2_with fail
        go_roundw
        case rel => exact ⟨k + 1, by omega, by go_num, HP.out, HB.out⟩
        case measure => simp [intOf]; omega
      · have HP := Lib.hid (any_take HLK.out HA.out (P := waitsP t) (by unfold waitsP; rw [hu]; rfl))
        clear hu hh
        go_wp2_with fail
        go_roundw
        case rel => exact ⟨k + 1, by omega, by go_num, HP.out, HB.out⟩
        case measure => simp [intOf]; omega
    · obtain rfl : k = n := by omega
      have hin : ¬ ((k : Int) < (k : Int)) := by omega
      have HE := Lib.hid (show ls.any (waitsP t) = false by have := HA.out; rwa [← HL.out, List.take_length] at this)
      clear hb
      go_wp2_with fail
      go_ret
      exact ⟨by rw [HE.out]; rfl, HB.out⟩
end Go.Proofs.YtlblgfpafdfilaaDoor
