/-
SEB RecordReadsWalk RecordReadsProof
-/
import Derived.Test.YtdhgbkibbileiaaGreatSE
import Derived.Test.YtdhgbkibbileiaaGreatUG
import Derived.Test.YtdhgbkibbileiaaGreatUF
import Derived.Test.YtdhgbkibbileiaaGreatSQ
set_option maxRecDepth 100000
namespace Go.Proofs.YtdhgbkibbileiaaGreat
open Go.RowKit Go.ChangeShapes Go.WideShapes Go.ChangeAt
def InB (w : World) (A : Option Addr) (n c : Nat) (l : List Nat) : Prop := RB w (fun b => b < w.heap.size) A n l ∧ n ≤ c ∧ n ≤ 140737488351232 ∧ (A = none → c = 0)
theorem in_open {H : Type} {enc : TypeId × Value → H} {W : World} {a : Option Addr} {n c : Nat} {d : DataW H} {p : List MemPlace}
  (h : DataW.Trod enc Tryz.prog W 0 (fun _ => true) true 24 (.slice a n c) d p)
  (hw : ∀ elems spare, d = .slice elems spare → (elems.length + spare.length) * Tryz.prog.bytesOf 5 ≤ reachBytes) : ∃ l, InB W a n c l := by
 obtain ⟨fuel, hf⟩ := h
 rcases open_ints Tryz.underlying24 Tryz.underlying5 (by kernel_rfl) hf with ⟨hcs, hx⟩ | ⟨x, l, c', zs, hcs, _, hl, hm, hz, hx, hcell, hwz⟩
 ·simp [Value.cells] at hcs
  obtain ⟨rfl, rfl, rfl⟩ := hcs
  exact ⟨[], RB.nil_, Nat.le_refl _, by omega, fun _ => rfl⟩
 ·simp [Value.cells] at hcs
  obtain ⟨rfl, rfl, rfl⟩ := hcs
  simp only [Prod.mk.injEq] at hx
  obtain ⟨hd, _⟩ := hx
  have hr := hw _ _ hd
  rw [bytes5] at hr
  simp only [if_true] at hz
  simp only [lits, List.length_map, List.length_take, List.length_drop, reachBytes] at hr
  have hbd : ∀ z ∈ zs, 0 ≤ z ∧ z ≤ 255 := fun z hz => by simpa [Lit.wf, IntKind.min, IntKind.max, IntKind.signed, IntKind.bits] using hwz z hz
  refine ⟨(zs.take n).map Int.toNat, ⟨by simp; omega, ?_, fun hn => ?_⟩, hl, by omega, fun e => by cases e⟩
  ·intro y hy
   simp only [List.mem_map] at hy
   obtain ⟨z, hz1, rfl⟩ := hy
   have := hbd z (List.mem_of_mem_take hz1)
   omega
  ·have hb := World.block_lt_of_cell? W _ (hcell 0 (by omega))
   rw [block_of_add] at hb
   refine ⟨x, rfl, hb, hb, fun j hj => ?_⟩
   rw [hcell j (by omega)]
   have hjz : j < zs.length := by omega
   have := hbd zs[j] (List.getElem_mem hjz)
   have e1 : zs.getD j 0 = zs[j] := by simp [hjz]
   have e2 : ((zs.take n).map Int.toNat).getD j 0 = zs[j].toNat := by simp [hj, hjz]
   rw [e1, e2, Int.toNat_of_nonneg this.1]
end Go.Proofs.YtdhgbkibbileiaaGreat
set_option maxRecDepth 100000
namespace Go.Proofs.YtdhgbkibbileiaaGreat
open Go.RowKit
namespace recordReads
section
attribute [local go_sem high] run_neqL run_eqL
set_option maxHeartbeats 16000000 in
theorem walked (A : Option Addr) (n c : Nat) (l : List Nat) (w : World) (h : InB w A n c l) : Calls Tryz.prog 4 #[.slice A n c] w (Alive w) := by
 obtain ⟨hr, hnc, hlo, hnz⟩ := h
 have HR := Lib.hid hr
 have HNC := Lib.hid (And.intro hnc hlo)
 have hlen : l.length = n := hr.len
 have HLEN := Lib.hid hlen
 have HAL := Lib.hid (fun W => alive_any W)
 have HDD := Lib.hid decode_u
 clear hr hnc hlo hnz hlen
 go_enter Tryz.func4, Tryz.ntmps4
 by_cases hbig : 131072 < n
 ·have d1 : decide ((n : Int) > 131072) = true := decide_eq_true (by omega)
  have d2 : decide (131072 < n) = true := decide_eq_true hbig
  have HB_w := Lib.hid (Below.refl w.heap.size w)
  clear hbig
  go_wp2_with fail
  with_reducible refine (HAL.out _).mono ?_
  rintro e wA ⟨rfl, hbA⟩
  have HBA := Lib.hid hbA
  clear hbA
  go_wp2_with fail
  go_ret
  exact ⟨rfl, HB_w.out.trans (HBA.out.mono HB_w.out.size)⟩
 ·have d1 : decide ((n : Int) > 131072) = false := decide_eq_false (by omega)
  have d2 : decide (131072 < n) = false := decide_eq_false (by omega)
  clear hbig
  have HCP := Lib.hid (copy_any w (fun b => b < w.heap.size) A n c l HR.out HNC.out.2)
  go_wp2_with fail
  with_reducible refine HCP.out.mono ?_
  unfold New
  rintro e w1 ⟨v, rfl, ho, hb1⟩
  have HB_w1 := Lib.hid hb1
  obtain ⟨A1, c1, rfl, hc1, _, hr1⟩ := ho.reads
  have HC1 : Hid (n ≤ c1) := Lib.hid (by rw [← HLEN.out]; exact hc1)
  rw [HLEN.out] at hr1 ⊢
  have HQ0 := Lib.hid (hr1.mono (T := fun b => b < w1.heap.size) fun b hb _ => hb)
  have HQ := Lib.hid (hr1.mono (T := All) fun _ _ _ => trivial)
  have HRA := Lib.hid ((HR.out.mono (T := All) fun _ _ _ => trivial).keep (Fr.of_below hb1 No) fun _ _ hn => hn)
  have HR1 := Lib.hid ((HR.out.keep (Fr.of_below hb1 No) fun _ _ hn => hn).mono (T := fun b => b < w1.heap.size) fun b hb _ => hb)
  clear ho hr1 hc1 hb1 HCP
  have HD1 := Lib.hid (HDD.out w1 A n c l HRA.out HNC.out.1 HNC.out.2)
  clear HDD HRA
  obtain ⟨nd, hnd⟩ : ∃ x, x = (decR l).2.1 := ⟨_, rfl⟩
  obtain ⟨cd, hcd⟩ : ∃ x, x = (decR l).2.2 := ⟨_, rfl⟩
  unfold DecU at HD1
  rw [← hnd, ← hcd] at HD1
  go_wp2_with fail
  with_reducible refine HD1.out.mono ?_
  rintro e w2 ⟨r, rfl, hre, hri, hru, hb2⟩
  have HRE := Lib.hid hre
  have HI := Lib.hid hri
  have HU := Lib.hid hru
  have HB12 := Lib.hid hb2
  have HB_w2 := Lib.hid (HB_w1.out.trans (hb2.mono HB_w1.out.size))
  have HQ := Lib.hid (HQ.out.keep (Fr.of_below hb2 No) fun _ _ hn => hn)
  clear hb2 hre hri hru HD1
  obtain ⟨w2b, hw2b⟩ : ∃ w2b, w2.alloc (.cells (rcs r) 31) = w2b := ⟨_, rfl⟩
  have HX : Hid (Blk w2b w2.heap.size 31 (rcs r)) := Lib.hid (by rw [← hw2b]; exact Blk.new w2 31 _)
  have hb_w2b : Below w2.heap.size w2 w2b := by rw [← hw2b]; exact (Below.refl _ _).alloc (Nat.le_refl _) _
  have HB_w2b := Lib.hid (HB_w2.out.trans (hb_w2b.mono HB_w2.out.size))
  have HQ := Lib.hid (HQ.out.keep (Fr.of_below hb_w2b No) fun _ _ hn => hn)
  have HI := Lib.hid (HI.out.keep (Fr.of_below hb_w2b No) fun _ _ hn => hn)
  obtain ⟨y0, y1, y2, y3, y4, y5, y6, y7, y8, y9, y10, y11, y12, y13, y14⟩ := rcs_cells HX.out
  simp only [rcs] at hw2b
  clear hb_w2b
  have HDQ := Lib.hid (rdec_any w2b A1 n c1 l HQ.out HC1.out HNC.out.2)
  unfold DecQ at HDQ
  rw [← hnd, ← hcd] at HDQ
  clear hnd hcd
  simp only [RV.agg]
  have HF2 : Hid (Fr w2 w2b No) := Lib.hid (by rw [← hw2b]; exact (Fr.refl w2 No).alloc _)
  go_wp2_with fail
  with_reducible refine HDQ.out.mono ?_
  rintro e w3 ⟨q, rfl, hqe, hqi, hb3⟩
  have HQE := Lib.hid hqe
  have HQI := Lib.hid hqi
  have HF3 := Lib.hid (Fr.of_below hb3 No)
  have HB_w3 := Lib.hid (HB_w2b.out.trans (hb3.mono HB_w2b.out.size))
  have HX := Lib.hid (HX.out.below hb3 HX.out.lt)
  have HQ := Lib.hid (HQ.out.keep (Fr.of_below hb3 No) fun _ _ hn => hn)
  have HI := Lib.hid (HI.out.keep (Fr.of_below hb3 No) fun _ _ hn => hn)
  obtain ⟨y0, y1, y2, y3, y4, y5, y6, y7, y8, y9, y10, y11, y12, y13, y14⟩ := rcs_cells HX.out
  clear hb3 hqe hqi HDQ
  obtain ⟨w3b, hw3b⟩ : ∃ w3b, w3.alloc (.cells (rcs q) 31) = w3b := ⟨_, rfl⟩
  have HX2 : Hid (Blk w3b w3.heap.size 31 (rcs q)) := Lib.hid (by rw [← hw3b]; exact Blk.new w3 31 _)
  have hb_w3b : Below w3.heap.size w3 w3b := by rw [← hw3b]; exact (Below.refl _ _).alloc (Nat.le_refl _) _
  have HB_w3b := Lib.hid (HB_w3.out.trans (hb_w3b.mono HB_w3.out.size))
  have HX := Lib.hid (HX.out.below hb_w3b HX.out.lt)
  have HQ := Lib.hid (HQ.out.keep (Fr.of_below hb_w3b No) fun _ _ hn => hn)
  have HI := Lib.hid (HI.out.keep (Fr.of_below hb_w3b No) fun _ _ hn => hn)
  have HQI := Lib.hid (HQI.out.keep (Fr.of_below hb_w3b No) fun _ _ hn => hn)
  obtain ⟨y0, y1, y2, y3, y4, y5, y6, y7, y8, y9, y10, y11, y12, y13, y14⟩ := rcs_cells HX.out
  obtain ⟨t0, t1, t2, t3, t4, t5, t6, t7, t8, t9, t10, t11, t12, t13, t14⟩ := rcs_cells HX2.out
  simp only [rcs] at hw3b
  clear hb_w3b
  have HF4 : Hid (Fr w2 w3b No) := Lib.hid (((HF2.out.same HF3.out)).same (by rw [← hw3b]; exact (Fr.refl w3 No).alloc _))
  have HZ3 : Hid (w2.heap.size < w3b.heap.size ∧ w3.heap.size < w3b.heap.size) := Lib.hid ⟨HX.out.lt, HX2.out.lt⟩
  have HRS : Hid (r.s = 0) := Lib.hid (by
   have h8 := (decR_brief l).2
   rw [← HRE.out] at h8
   exact h8)
  have HBQ : Hid (Brief r) := Lib.hid (Brief.of_e HI.out (by rw [HRE.out]; exact (decR_brief l).1))
  have k1 : ((nd : Int) != (nd : Int)) = false := by simp
  have k2 : (nd != nd) = false := by simp
  have k3 : (cd != cd) = false := by simp
  have k4 : ((r.s : Int) != 0) = false := by rw [HRS.out]; rfl
  have k5 : (r.s != 0) = false := by rw [HRS.out]; rfl
  simp only [RV.agg]
  have HSM : Hid (∀ W, r.In W All → q.In W All → Calls Tryz.prog 16 #[r.agg, q.agg] W fun e w' => e = .returned (.bool true) ∧ Below W.heap.size W w') := Lib.hid (fun W h1 h2 => by
   refine (same_r r q W h1 h2).mono ?_
   rintro e w' ⟨b, rfl, hiff, hb⟩
   have hbt : b = true := hiff.2 (by rw [HRE.out, HQE.out])
   rw [hbt]
   exact ⟨rfl, hb⟩)
  unfold RV.agg at HSM
  have HF5 : Hid (Fr w2 w3b No) := HF4
  have HB3B : Hid (w3b.heap.size = w3b.heap.size) := Lib.hid rfl
  have HSMM := Lib.hid (HSM.out w3b (HI.out.mono (T' := All) fun _ _ _ => trivial) HQI.out)
  clear HSM
  go_wp2_with fail
  with_reducible refine HSMM.out.mono ?_
  rintro e wa ⟨rfl, hbz⟩
  have HS5 : Hid (Fr w3b wa No) := Lib.hid (Fr.of_below hbz No)
  have HB_wa := Lib.hid (HB_w3b.out.trans (hbz.mono HB_w3b.out.size))
  have HX := Lib.hid (HX.out.below hbz HX.out.lt)
  have HX2 := Lib.hid (HX2.out.below hbz HX2.out.lt)
  have HQ := Lib.hid (HQ.out.keep (Fr.of_below hbz No) fun _ _ hn => hn)
  have HI := Lib.hid (HI.out.keep (Fr.of_below hbz No) fun _ _ hn => hn)
  have HQI := Lib.hid (HQI.out.keep (Fr.of_below hbz No) fun _ _ hn => hn)
  obtain ⟨y0, y1, y2, y3, y4, y5, y6, y7, y8, y9, y10, y11, y12, y13, y14⟩ := rcs_cells HX.out
  obtain ⟨t0, t1, t2, t3, t4, t5, t6, t7, t8, t9, t10, t11, t12, t13, t14⟩ := rcs_cells HX2.out
  clear hbz
  clear HF5
  have HF5 := Lib.hid (HF4.out.same HS5.out)
  have HUA := Lib.hid (HU.out _ HF5.out)
  have HB1A : Hid (Below w1.heap.size w1 wa) := Lib.hid (HB12.out.trans (HF5.out.no_below.mono HB12.out.size))
  have HSP := Lib.hid (spoil_any wa w1.heap.size _ r HI.out (fun _ hb => hb) HUA.out HBQ.out HB1A.out.size)
  unfold RV.agg at HSP
  go_wp2_with fail
  with_reducible refine HSP.out.mono ?_
  rintro e w6 ⟨rfl, hb6⟩
  have HB6 : Hid (Below w1.heap.size w1 w6) := Lib.hid (HB1A.out.trans hb6)
  have HBW6 : Hid (Below w.heap.size w w6) := Lib.hid (HB_w1.out.trans (HB6.out.mono HB_w1.out.size))
  have h1 := run_conv _ A n c l w6 (HR1.out.below HB6.out fun b hb => hb)
  have h2 := run_conv _ A1 n c1 l w6 (HQ0.out.below HB6.out fun b hb => hb)
  have h1d := run_conv _ A n c l w6.drew (HR1.out.below HB6.out fun b hb => hb).drew
  have h2d := run_conv _ A1 n c1 l w6.drew (HQ0.out.below HB6.out fun b hb => hb).drew
  have hsq : seq l l = true := by unfold seq; simp
  clear hb6
  go_wp2_with fail
  with_reducible refine (HAL.out _).mono ?_
  rintro e w9 ⟨rfl, hb9⟩
  have HB9 := Lib.hid (HBW6.out.trans (hb9.mono HBW6.out.size))
  clear hb9
  go_wp2_with fail
  go_ret
  exact ⟨rfl, HB9.out⟩
end
end recordReads
end Go.Proofs.YtdhgbkibbileiaaGreat
set_option maxRecDepth 100000
namespace Go.Proofs.YtdhgbkibbileiaaGreat.recordReads
open Go.ChangeShapes Go.WideShapes Go.ChangeAt Go.RowKit
theorem lifted (os : Os) (started : os.Started) (H : Type) (enc : TypeId × Value → H) :
  ReturnsInHanded {} Tryz.checked os 4 .any (Rows.recordReadsSpec.pre6 enc Tryz.prog Tryz.f4 Rows.recordReadsRow.domain false) (Rows.recordReadsSpec.post enc Tryz.prog Tryz.f4 false true false false) := by
 refine returnsInHanded_of_change_sized (C := Tryz.checked) own started (by kernel_rfl) Tryz.func4
  (ChangeSpec.witness6 (enc := enc) (C := Tryz.checked) false ⟨#[], #[.slice none 0 0], []⟩ 8 (by kernel_rfl) (by kernel_rfl) (by kernel_rfl) (by kernel_rfl)) ?_
 intro W base args ds gs before hval0 hW _ hsz0 _
 have hval : ∀ (j : Nat) t v, Tryz.f4.params[j]? = some t → args[j]? = some v → Value.okWide Tryz.prog W .any base t v := hval0
 have hsz : (DataW.weightsEach Tryz.prog (Tryz.f4.params.toList ++ Rows.recordReadsSpec.plain.varTypes Tryz.prog) (ds ++ gs)).all (· ≤ reachBytes) = true := hsz0
 have hW' := hW
 obtain ⟨p, q, hA0, hV, rfl, hfz, hnd⟩ := hW
 have hA : DataW.TrodAll enc Tryz.prog W 0 (fun _ => true) true Tryz.f4.params.toList args.toList ds p := hA0
 rw [Tryz.params4] at hA hval hsz
 obtain ⟨v0, vs0, d0, ds0, p0, q0, hargs, rfl, rfl, h0, r0⟩ := trodAll_cons hA
 obtain ⟨rfl, rfl, rfl⟩ := trodAll_nil r0
 obtain rfl : args = #[v0] := by cases args; simp_all
 obtain ⟨rfl, rfl⟩ := trodVars_none hV
 obtain ⟨a0, len0, cap0, rfl⟩ := okWide_slice Tryz.underlying24 (hval 0 24 v0 rfl rfl)
 have k0 := h0
 have lt0 : ∀ x ∈ p0, x.block < W.heap.size := by obtain ⟨m, hm⟩ := k0; exact DataW.trod_lt m _ _ _ hm
 obtain ⟨l0, w0⟩ := in_open h0 fun elems spare e => sized_slice hsz (j := 0) (t := 24) (e := 5) rfl (by rw [e]; rfl) Tryz.underlying24
 clear hA0 hval0 hsz0
 refine (walked a0 len0 cap0 l0 W w0).mono fun e W' ⟨he, bel⟩ => ?_
 subst he
 exact ⟨_, rfl, _, _, _, [], _, [], hW', trodAll_mk1 (shut_bool Tryz.underlying4 _), (trodAll_cons_mk (Below.trod laidOut (by kernel_rfl) (of_decide_eq_true (by kernel_rfl)) k0 bel lt0) trodAll_mk0), rfl, bel.frame _, fun h => by cases h⟩
theorem over : Rows.recordReadsRow.holds Tryz.pinned (OpenSpec.ofChange Rows.recordReadsSpec) :=
 OpenClaim.holds_of_wide 4 Tryz.f4 rfl rfl rfl rfl rfl rfl rfl ⟨rfl, rfl, rfl, rfl, rfl⟩ rfl rfl rfl rfl rfl (by kernel_rfl) Tryz.func4 (by kernel_rfl)
  (of_decide_eq_true (by kernel_rfl)) (by unfold Func.isWrapper; first | (rw [if_pos (by decide +kernel)]; kernel_rfl) | (rw [if_neg (by decide +kernel)]; exact ⟨rfl, rfl⟩))
  (fun os started H enc _ => lifted os started H enc)
theorem proved : Rows.RecordReadsSaid := over
end Go.Proofs.YtdhgbkibbileiaaGreat.recordReads
