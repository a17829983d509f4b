/-
STAGE 12: the document's Victim.
-/
import Derived.Test.YtlblgfpafdfilaaDoorNX
import Derived.Test.YtlblgfpafdfilaaDoorLockRingsWalk
namespace Go.Proofs.YtlblgfpafdfilaaDoor
open Go.RowKit Go.Sort Go.Proofs.YtlblgfpafdfilaaDoor.lockRings

theorem pr_rw (ls : List LK) (a b : Nat) : PR (rwaitsM ls) a b ↔ Wre ls a b := by
  constructor
  · intro h
    induction h with
    | one h => exact .one ((rwaits_iff ls _ _).1 h)
    | more _ h ih => exact ih.trans (.one ((rwaits_iff ls _ _).1 h))
  · intro h
    induction h with
    | one h => exact .one ((rwaits_iff ls _ _).2 h)
    | step h _ ih => exact PR.first ((rwaits_iff ls _ _).2 h) ih
noncomputable def rvM (ls : List LK) : Nat := mostTo (rwaitsM ls) (fun a => reB (rwaitsM ls) a a) (rwaitsM ls).length
/-- what the program's Victim says, the document's says -/
theorem rv_eq {ls : List LK} {v : Nat} (h1 : v = 0 ∨ Wre ls v v) (h2 : ∀ a, Wre ls a a → a ≤ v) : rvM ls = v := by
  have hR : ∀ a, reB (rwaitsM ls) a a = true ↔ Wre ls a a := fun a => by rw [reB_true, pr_rw]
  have hin := mostTo_in (rwaitsM ls) (fun a => reB (rwaitsM ls) a a) _ (Nat.le_refl _)
  have hle : rvM ls ≤ v := by
    rcases hin with h | ⟨b, _, h⟩
    · unfold rvM; omega
    · exact h2 _ ((hR _).1 h)
  rcases h1 with h1 | h1
  · omega
  · have hw := h1
    have : ∃ b, Wt ls v b := by
      cases h1 with
      | one h => exact ⟨_, h⟩
      | step h _ => exact ⟨_, h⟩
    obtain ⟨b, hb⟩ := this
    obtain ⟨i, hi⟩ := List.getElem?_of_mem ((rwaits_iff ls v b).2 hb)
    have := mostTo_ge (rwaitsM ls) (fun a => reB (rwaitsM ls) a a) _ i (v, b) (List.getElem?_eq_some_iff.1 hi).1 hi ((hR v).2 hw)
    have e : rvM ls = mostTo (rwaitsM ls) (fun a => reB (rwaitsM ls) a a) (rwaitsM ls).length := rfl
    simp only at this
    omega
theorem rwaits_few (ls : List LK) (h : ls.length ≤ 16384) : (rwaitsM ls).length ≤ 1000000000 :=
  Nat.le_trans (rwTo_len ls ls.length) (Nat.le_trans (Nat.mul_le_mul h h) (by decide))
set_option maxRecDepth 100000 in
set_option maxHeartbeats 8000000 in
theorem rvictim_any (g : Nat) (A : Option Addr) (c : Nat) (ls : List LK) (w : World) (hT : RT w g A c ls) (hI : Inv ls) :
    Calls Tryd.prog 18 #[.pointer (some ⟨g, 0, none⟩)] w fun e w' => e = .returned (.int .u32 (rvM ls : Int)) ∧ Below w.heap.size w w' := by
  have HW := Lib.hid (rwaits_any g A c ls w hT hI)
  have HF := Lib.hid (rwaits_few ls hT.few)
  unfold rvM
  generalize rwaitsM ls = P at HW HF ⊢
  obtain ⟨n, hnn⟩ : ∃ n, P.length = n := ⟨_, rfl⟩
  rw [hnn] at HF ⊢
  have HNN := Lib.hid hnn
  clear hT hI hnn
  go_enter Tryd.func18, Tryd.ntmps18
  go_wp2_with (go_at_call 16; with_reducible refine HW.out.mono ?_; rintro e w1 ⟨v1, rfl, hn⟩; obtain ⟨A1, c1, hv1, _⟩ := hn.own.form; rw [HNN.out] at hv1; subst hv1; have HP := Lib.hid hn.own.prow; have HB1 := Lib.hid hn.bel; clear hn)
  go_loopw [4, 5] (fun m i wr => ∃ k : Nat, k ≤ n ∧ i = .int .i64 (k : Int) ∧ m = .int .u32 ((mostTo P (fun a => reB P a a) k : Nat) : Int) ∧ Below w1.heap.size w1 wr) (fun _ i _ => n - (intOf i).toNat)
  case atStart => exact ⟨0, by omega, rfl, rfl, Below.refl _ _⟩
  case round =>
    obtain ⟨k, hk, rfl, rfl, hb⟩ := hrel
    have HB := Lib.hid hb
    by_cases hlt : k < n
    · have hp : P[k]? = some (P[k]'(by have := HNN.out; omega)) := List.getElem?_eq_getElem _
      generalize P[k]'(by have := HNN.out; omega) = p at hp
      obtain ⟨b, rfl, c1', c2'⟩ := (HP.out.up hb) k p hp
      have HRB := Lib.hid (fun W' (hW : Below wr.heap.size wr W') => reaches_b W' (some ⟨b, 0, none⟩) n c1 P HNN.out ((HP.out.up hb).up hW) HF.out p.1 p.1)
      have HS := Lib.hid (show mostTo P (fun a => reB P a a) (k + 1) = if (decide (mostTo P (fun a => reB P a a) k < p.1) && reB P p.1 p.1) = true then p.1 else mostTo P (fun a => reB P a a) k by
        show (if (decide (mostTo P (fun a => reB P a a) k < (P.getD k (0, 0)).1) && reB P (P.getD k (0, 0)).1 (P.getD k (0, 0)).1) = true then (P.getD k (0, 0)).1 else mostTo P (fun a => reB P a a) k) = _
        rw [getD_of2 hp])
      have e1 : IntKind.i64.wrap ((k : Int) + 1) = ((k + 1 : Nat) : Int) := by rw [IntWalk.i64_in _ (by have := HF.out; omega)]; omega
      have hin : ((k : Int) < (n : Int)) := by omega
      generalize mostTo P (fun a => reB P a a) k = m at HS ⊢
      obtain ⟨f, hf⟩ : ∃ f, decide (m < p.1) = f := ⟨_, rfl⟩
      have Q1 := Lib.hid (show decide ((p.1 : Int) > (m : Int)) = f by rw [← hf, decide_eq_decide]; omega)
      have Q2 := Lib.hid hf
      rw [hf] at HS
      generalize reB P p.1 p.1 = r at HRB HS
      have z1 := fun d os => cell_regrown c1' d os
      clear hp hb hf
      go_upto_region 6 with fail
      have hin3 : ((k : Int) < (n : Int)) := by omega
      have q1 := Q1.out
      have q1b : decide ((m : Int) < (p.1 : Int)) = f := Q1.out
      have q2 := Q2.out
      have key : f = false ∨ (f = true ∧ r = false) ∨ (f = true ∧ r = true) := by cases f <;> cases r <;> simp
      rcases key with rfl | ⟨rfl, rfl⟩ | ⟨rfl, rfl⟩ <;>
      · refine wp_region_quiet_below (by kernel_rfl) (by kernel_rfl) ?_
        repeat (go_big_quiet_step (first | (go_at_call 25; with_reducible exact Calls.regrown_of (HRB.out _ (below_regrown _ _ _)))))
        refine wpQuiet_nil ?_
        rintro W3 ⟨pp, hpp⟩
        have HB5 := Lib.hid (show Below wr.heap.size wr W3 by rw [hpp]; exact below_regrown _ _ _)
        have d1 := (HB5.out.cell (block_lt_of_cell c1')).trans c1'
        clear hpp z1 q1 q1b q2 c1' c2'
        go_wp2_with fail
        go_roundw
        case rel => exact ⟨k + 1, by omega, by go_num, by rw [HS.out]; simp, HB.out.trans (HB5.out.mono HB.out.size)⟩
        case measure => simp [intOf]; omega
    · obtain rfl : k = n := by omega
      have hin : ¬ ((k : Int) < (k : Int)) := by omega
      clear hb
      go_wp2_with fail
      go_ret
      exact ⟨rfl, HB1.out.trans (HB.out.mono HB1.out.size)⟩
end Go.Proofs.YtlblgfpafdfilaaDoor
