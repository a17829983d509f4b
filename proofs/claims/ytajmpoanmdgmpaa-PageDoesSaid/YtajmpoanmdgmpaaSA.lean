/-
  THE WALKS OF bytes.Equal, OF find's CLOSURE, OF sort.Search.
-/
import Derived.Test.YtajmpoanmdgmpaaPG
import Derived.Test.YtajmpoanmdgmpaaPJ
import Derived.BigQuiet
import Derived.Lib.QuietBelow
namespace Go.Proofs.Ytajmpoanmdgmpaa
open Go.RowKit

section
attribute [local go_sem high] run_neqL run_eqL
set_option maxRecDepth 100000 in
theorem equal_any {T T' : Nat → Prop} (A B : Option Addr) (n c m cb : Nat) (l k : List Nat) (w : World) (h : RB w T A n l) (h' : RB w T' B m k) :
    Calls Try.prog 99 #[.slice A n c, .slice B m cb] w fun e w' => e = .returned (.bool (seq l k)) ∧ w = w' := by
  have h1 := run_conv _ A n c l w h
  have h2 := run_conv _ B m cb k w h'
  clear h h'
  go_enter Try.func99, Try.ntmps99
  go_wp2_with fail
  go_ret
  exact ⟨rfl, rfl⟩
end
def fnV (a b : Nat) : Value := .func (.func 98) #[] #[.pointer (some ⟨a, 0, none⟩), .pointer (some ⟨b, 0, none⟩)]
set_option maxHeartbeats 1000000 in
set_option maxRecDepth 100000 in
theorem less_any (p : PV) (op : OV) (w : World) (a b : Nat) (hp : Blk w a 26 (pcs p)) (ho : Blk w b 46 (ocs op)) (hi : p.In w All All) (ho2 : op.In w All) (i : Nat) (hlt : i < p.n) (hn : p.n ≤ 1000) (x : CE) (hx : p.es[i]? = some x) :
    Calls Try.prog 98 #[.int .i64 (i : Int), .pointer (some ⟨a, 0, none⟩), .pointer (some ⟨b, 0, none⟩)] w fun e w' => e = .returned (.bool (!ltb x.d op.d)) ∧ Below w.heap.size w w' := by
  obtain ⟨y0, y1, y2, y3⟩ := pcs_cells hp
  obtain ⟨t0, t1, t2, t3⟩ := ocs_cells ho
  obtain ⟨g, o, xx, hA, hg, _, hxx, hxi, b0, b1, b2⟩ := hi.r.at_ hlt
  have hxe : xx.e = x := by
    have h1 := es_at hxx
    have h2 : (p.l.map CV.e)[i]? = some x := hx
    rw [h1] at h2
    injection h2
  have hd : xx.d = x.d := by rw [← hxe]; rfl
  have HCM := Lib.hid (fun (W : World) (hW : Below w.heap.size w W) => (compare_any xx.A xx.m xx.c xx.d op.A op.m op.c op.d W (hxi.b.keep (Fr.of_below hW No) fun _ _ hn => hn) (ho2.b.keep (Fr.of_below hW No) fun _ _ hn => hn)).mono (R' := fun e w' => e = .returned (.int .i64 (cmpN xx.d op.d)) ∧ Below W.heap.size W w') fun e w' ⟨a, b⟩ => ⟨a, b ▸ Below.refl _ _⟩)
  have HGE := Lib.hid (cmpN_ge xx.d op.d)
  have hws : IntKind.i64.wrap (i : Int) = (i : Int) := IntWalk.i64_in _ (by omega)
  rw [hA] at y3
  obtain ⟨cm, hcm⟩ : ∃ cm, cm = cmpN xx.d op.d := ⟨_, rfl⟩
  rw [← hcm] at HCM HGE
  have HD := Lib.hid hd
  obtain ⟨lb, hlb⟩ : ∃ lb, lb = ltb xx.d op.d := ⟨_, rfl⟩
  rw [← hlb] at HGE
  have HLB := Lib.hid hlb
  have hge := HGE.out
  clear hp ho hi ho2 hx hA hxx hxi hxe hd hcm hlb b0 b1
  go_enter Try.func98, Try.ntmps98
  go_wp2_with fail
  have z0 := fun d os => cell_regrown y3 d os
  have z1 := fun d os => cell_regrown b2 d os
  have z2 := fun d os => cell_regrown t3 d os
  refine wp_region_quiet_below (by kernel_rfl) (by kernel_rfl) ?_
  repeat (go_big_quiet_step (first | (go_at_call 88; with_reducible exact Calls.regrown_of (HCM.out _ (below_regrown _ _ _)))))
  refine wpQuiet_nil ?_
  rintro W3 ⟨pp, hpp⟩
  have HB3 := Lib.hid (show Below w.heap.size w W3 by rw [hpp]; exact below_regrown _ _ _)
  clear hpp z0 z1 z2
  go_wp2_with fail
  go_ret
  refine ⟨?_, HB3.out⟩
  show Ending.returned (.bool (!lb)) = _
  rw [HLB.out, HD.out]
set_option maxHeartbeats 1000000 in
set_option maxRecDepth 100000 in
theorem search_any (w : World) (n a b : Nat) (P : Nat → Bool) (q : Nat) (hq : q ≤ n) (h1 : ∀ k, k < q → P k = false) (h2 : ∀ k, q ≤ k → k < n → P k = true) (hn : n ≤ 1000)
    (hc : ∀ W, Below w.heap.size w W → ∀ i, i < n → Calls Try.prog 98 #[.int .i64 (i : Int), .pointer (some ⟨a, 0, none⟩), .pointer (some ⟨b, 0, none⟩)] W fun e w' => e = .returned (.bool (P i)) ∧ Below W.heap.size W w') :
    Calls Try.prog 97 #[.int .i64 (n : Int), fnV a b] w fun e w' => e = .returned (.int .i64 (q : Int)) ∧ Below w.heap.size w w' := by
  have HC := Lib.hid hc
  have H1 := Lib.hid h1
  have H2 := Lib.hid h2
  clear hc h1 h2
  unfold fnV
  go_enter Try.func97, Try.ntmps97
  go_wp2
  go_loopw [5, 6] (fun u v wr => ∃ i j : Nat, u = .int .i64 (i : Int) ∧ v = .int .i64 (j : Int) ∧ i ≤ q ∧ q ≤ j ∧ j ≤ n ∧ Below w.heap.size w wr) (fun u v _ => (intOf v).toNat - (intOf u).toNat)
  case atStart => exact ⟨0, n, rfl, rfl, by omega, hq, by omega, Below.refl _ _⟩
  case round =>
    obtain ⟨i, j, rfl, rfl, hi, hj, hjn, hb⟩ := hrel
    have HB := Lib.hid hb
    clear hb
    by_cases hlt : i < j
    · have hin : ((i : Int) < (j : Int)) := by omega
      obtain ⟨s, hs⟩ : ∃ s, s = i + j := ⟨_, rfl⟩
      obtain ⟨m, hm⟩ : ∃ m, m = s / 2 := ⟨_, rfl⟩
      have e1 : IntKind.i64.wrap ((i : Int) + (j : Int)) = (s : Int) := by rw [IntWalk.i64_in _ (by omega)]; omega
      have e2 : IntKind.u64.wrap (s : Int) = (s : Int) := by rw [IntKind.wrap_u64]; omega
      have e3 : (s : Int) / 2 = (m : Int) := by omega
      have e4 : IntKind.i64.wrap (m : Int) = (m : Int) := IntWalk.i64_in _ (by omega)
      have e5 : IntKind.i64.wrap ((m : Int) + 1) = ((m + 1 : Nat) : Int) := by rw [IntWalk.i64_in _ (by omega)]; omega
      have hmi : i ≤ m ∧ m < j := by omega
      have HMI := Lib.hid hmi
      have HCM := Lib.hid (HC.out _ HB.out m (by omega))
      clear hs hm hmi
      cases hP : P m with
      | false =>
        rw [hP] at HCM
        have HMQ : Hid (m < q) := by
          rcases Nat.lt_or_ge m q with h | h
          · exact h
          · have := H2.out m h (by have := HMI.out; omega)
            rw [this] at hP; cases hP
        clear hP
        go_wp2_with fail
        with_reducible refine HCM.out.mono ?_
        rintro e w2 ⟨rfl, hb2⟩
        have HB2 := Lib.hid (HB.out.trans (hb2.mono HB.out.size))
        clear hb2
        go_wp2_with fail
        go_roundw
        case rel => exact ⟨m + 1, j, by go_num, rfl, by have := HMQ.out; omega, hj, hjn, HB2.out⟩
        case measure => simp [intOf]; have := HMI.out; omega
      | true =>
        rw [hP] at HCM
        have HMQ : Hid (q ≤ m) := by
          rcases Nat.lt_or_ge m q with h | h
          · have := H1.out m h
            rw [this] at hP; cases hP
          · exact h
        clear hP
        go_wp2_with fail
        with_reducible refine HCM.out.mono ?_
        rintro e w2 ⟨rfl, hb2⟩
        have HB2 := Lib.hid (HB.out.trans (hb2.mono HB.out.size))
        clear hb2
        go_wp2_with fail
        go_roundw
        case rel => exact ⟨i, m, rfl, rfl, hi, HMQ.out, by have := HMI.out; omega, HB2.out⟩
        case measure => simp [intOf]; have := HMI.out; omega
    · have h1d : decide ((i : Int) < (j : Int)) = false := decide_eq_false (by omega)
      have h1d2 : decide (i < j) = false := decide_eq_false hlt
      have HIQ := Lib.hid (show i = q by omega)
      go_wp2_with fail
      go_ret
      exact ⟨by rw [HIQ.out]; rfl, HB.out⟩
end Go.Proofs.Ytajmpoanmdgmpaa
