/-
  THE WALK OF RowsDecode.
-/
import Derived.Test.YtiilhnedflmgoaaKit
namespace Go.Proofs.Ytiilhnedflmgoaa.rowsDecode
open Go.RowKit Go.Sort
attribute [local go_sem high] run_eqv run_neqv run_eqs
theorem ok9 : VOk ⟨9, 0, ⟨#[]⟩⟩ := ⟨by simp [N64], Nat.zero_le _⟩
theorem rv_nil (w : World) : RV w none 0 [] := ⟨rfl, by simp, by omega, fun h => absurd h (by omega)⟩
set_option maxRecDepth 100000 in
set_option maxHeartbeats 16000000 in
theorem walked (A : Option Addr) (n c : Nat) (cs : List C) (s : ByteArray) (w : World) (ha : ColsIn w A n c cs) (hs : s.size ≤ 9223372036854775807) :
    Calls Try.prog 5 #[.slice A n c, .string s] w fun e w' => e = .returned (.bool true) ∧ Below w.heap.size w w' := by
  have ln := ha.1.1
  have HA := Lib.hid (fun (W : World) (h : Below w.heap.size w W) => ha.1.below h)
  have H1 := Lib.hid (lentC_any A n c cs w ha.1 ha.2.2)
  have HW := Lib.hid (fun W => awake_any W)
  have hlen := decV_len cs s
  clear ha
  go_enter Try.func5, Try.ntmps5
  go_wp2_with fail
  refine H1.out.mono ?_
  rintro e w1 ⟨g, c1, rfl, hl⟩
  have HB1 := Lib.hid hl.2.2.2.2.2
  have hnc := hl.1
  have hsz1 := hl.2.2.2.2.2.size
  have HL1 := Lib.hid (fun (W : World) (h : Below w1.heap.size w1 W) => lentC_below hl h)
  have HX1 := Lib.hid (fun (W : World) (h : Below w1.heap.size w1 W) => ln ▸ (lentC_below hl h).rv)
  clear hl H1
  have HC := Lib.hid (decode_any _ n c1 cs s w1 (HX1.out _ (Below.refl _ _)) (by omega) hs)
  go_wp2_with fail
  refine HC.out.mono ?_
  rintro e w2 ⟨v1, rfl, ho1⟩
  have hb2 := ho1.2
  have hsz2 := hb2.size
  clear HC
  have HC := Lib.hid (decode_any _ n c1 cs s w2 (HX1.out _ hb2) (by omega) hs)
  go_wp2_with fail
  refine HC.out.mono ?_
  rintro e w3 ⟨v2, rfl, ho2⟩
  have hb3 := ho2.2
  have hsz3 := hb3.size
  clear HC
  have HC := Lib.hid (rdecode_any A n c cs s w3 (HA.out _ (below_trans HB1.out (below_trans hb2 hb3))) hs)
  go_wp2_with fail
  refine HC.out.mono ?_
  rintro e w4 ⟨v0, rfl, ho0⟩
  have hb4 := ho0.2
  have hsz4 := hb4.size
  clear HC
  generalize decV cs s = r at *
  generalize decX cs s = x at *
  obtain ⟨k, hk⟩ : ∃ k, r.length = k := ⟨_, rfl⟩
  have o0 := ho0.1
  have o1 := ho1.1
  have o2 := ho2.1
  rw [hk] at o0 o1 o2 hlen
  obtain ⟨A0, c0, rfl, _, _, _, r0⟩ := o0.reads (by omega)
  obtain ⟨A1, c1', rfl, _, _, _, r1⟩ := o1.reads (by omega)
  obtain ⟨A2, c2, rfl, _, _, _, r2⟩ := o2.reads (by omega)
  have HD4 := Lib.hid (below_trans hb2 (below_trans hb3 hb4))
  have HR0 := Lib.hid (fun (W : World) (h : Below w4.heap.size w4 W) => r0.below h)
  have HR1 := Lib.hid (fun (W : World) (h : Below w4.heap.size w4 W) => r1.below (below_trans (below_trans hb3 hb4) h))
  have HR2 := Lib.hid (fun (W : World) (h : Below w4.heap.size w4 W) => r2.below (below_trans hb4 h))
  have HO1 := Lib.hid ((o1.mono (T := fun b => w1.heap.size ≤ b ∧ b < w2.heap.size) fun b h1 h2 => ⟨h2, h1⟩).below (below_trans hb3 hb4) (fun b hb => hb.2))
  have HO2 := Lib.hid (o2.up5 hb4)
  have HO0 := Lib.hid o0
  have HB4 := Lib.hid (below_trans HB1.out HD4.out)
  clear ho0 ho1 ho2 o0 o1 o2 r0 r1 r2 hb2 hb3 hb4 hk
  have hx1 : (x != x) = false := by simp
  have hx2 : (x == x) = true := by simp
  have HC := Lib.hid (same_any A1 k c1' r A0 k c0 r w4 (HR1.out _ (Below.refl _ _)) (HR0.out _ (Below.refl _ _)))
  rw [(eqR_iff r r).2 rfl] at HC
  go_wp2_with fail
  refine HC.out.mono ?_
  rintro e w5 ⟨rfl, hb5⟩
  have HD5 := Lib.hid hb5
  clear hb5 HC
  have HC := Lib.hid (same_any A2 k c2 r A0 k c0 r w5 (HR2.out _ HD5.out) (HR0.out _ HD5.out))
  rw [(eqR_iff r r).2 rfl] at HC
  go_wp2_with fail
  refine HC.out.mono ?_
  rintro e w6 ⟨rfl, hb6⟩
  have HD6 := Lib.hid (below_trans HD5.out hb6)
  clear hb6 HC HD5
  have HC := Lib.hid (lent_any none 0 0 [] w6 (rv_nil _) (by omega))
  go_wp2_with fail
  refine HC.out.mono ?_
  rintro e w7 ⟨g7, c7, rfl, hl7⟩
  have HD7 := Lib.hid (below_trans HD6.out hl7.2.2.2.2.2)
  have HC := Lib.hid (kept_any g c1 n A c cs g7 c7 0 none 0 [] _ _ w7 (HL1.out _ (below_trans HD4.out HD7.out)) (HA.out _ (below_trans HB4.out HD7.out)) hl7 (rv_nil _))
  clear hl7 HD6
  go_wp2_with fail
  refine HC.out.mono ?_
  rintro e w8 ⟨rfl, hb8⟩
  have HD8 := Lib.hid (below_trans HD7.out hb8)
  clear hb8 HC HD7
  have hsz8 : w4.heap.size ≤ w8.heap.size := HD8.out.size
  have HO1 := Lib.hid (HO1.out.below HD8.out (fun b hb => by omega))
  have HO2 := Lib.hid (HO2.out.up5 HD8.out)
  have HO0 := Lib.hid (HO0.out.up5 HD8.out)
  clear HR0 HR1 HR2 HL1 HX1 HA
  go_wp2
  go_loopw [12] (fun i wr => ∃ (j : Nat) (xs : List V), j ≤ k ∧ i = .int .i64 (j : Int) ∧ OwV wr (fun b => w1.heap.size ≤ b ∧ b < w2.heap.size) (.slice A1 k c1') k xs ∧ Fr w8 wr (fun b => w1.heap.size ≤ b ∧ b < w2.heap.size)) (fun i _ => k - (intOf i).toNat)
  case atStart => exact ⟨0, r, by omega, rfl, HO1.out, Fr.refl _ _⟩
  case round =>
    obtain ⟨j, xs, hj, rfl, ho, hfr⟩ := hrel
    by_cases hlt : j < k
    · obtain ⟨gq, cap, e, hS, ⟨q0, q1, q2, d0, d1, d2⟩, ⟨f0, f1, f2⟩, hset⟩ := slot_at ho hlt
      injection e with e1 e2 e3
      subst e1 e3
      have HSET := Lib.hid (hset ⟨9, 0, ⟨#[]⟩⟩ ok9)
      have HFR := Lib.hid (((hfr.setCell (p := ⟨gq, j * 3, none⟩) (Or.inl hS) (.int .i64 9)).setCell (p := ⟨gq, j * 3 + 1, none⟩) (Or.inl hS) (.int .i64 0)).setCell (p := ⟨gq, j * 3 + 2, none⟩) (Or.inl hS) (.string ⟨#[]⟩))
      clear hset ho hfr hS
      go_wp2
      go_roundw
      case rel => exact ⟨j + 1, _, by omega, by go_num, HSET.out, HFR.out⟩
      case measure => simp [intOf]; omega
    · obtain rfl : j = k := by omega
      have HF := Lib.hid hfr
      have HBL : Hid (Below w.heap.size w wr) := by
        have h1 : Below w.heap.size w w8 := below_trans HB4.out HD8.out
        exact h1.trans (HF.out.below (fun b hb => by omega) h1.size)
      have HSX := Lib.hid (same_any A2 j c2 r A0 j c0 r wr (row_fr HO2.out HF.out (fun b h1 h2 => by omega) (by omega)) (row_fr HO0.out HF.out (fun b h1 h2 => by omega) (by omega)))
      rw [(eqR_iff r r).2 rfl] at HSX
      clear ho hfr HF HO1 HO2 HO0
      go_wp2_with fail
      refine HSX.out.mono ?_
      rintro e w9 ⟨rfl, hb9⟩
      have HB9 := Lib.hid (below_trans HBL.out hb9)
      clear hb9 HSX
      go_wp2_with fail
      refine (HW.out _).mono ?_
      rintro e w10 ⟨rfl, hb10⟩
      have HB10 := Lib.hid (below_trans HB9.out hb10)
      clear hb10
      go_wp2
      go_ret
      exact ⟨rfl, HB10.out⟩
end Go.Proofs.Ytiilhnedflmgoaa.rowsDecode
