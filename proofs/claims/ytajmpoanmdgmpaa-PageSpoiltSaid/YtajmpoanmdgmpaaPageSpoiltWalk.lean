/-
  THE WALK OF PageSpoilt.
-/
import Derived.Test.YtajmpoanmdgmpaaPX
import Derived.Test.YtajmpoanmdgmpaaPW
import Derived.BigRegion
import Derived.RegionTactic
namespace Go.Proofs.Ytajmpoanmdgmpaa
open Go.RowKit

theorem unfix_inj {a b : List Nat} (ha : ∀ x ∈ a, x < 256) (hb : ∀ x ∈ b, x < 256) (hl : a.length = b.length) (h : Cd.unfix a = Cd.unfix b) : a = b := by
  rw [← fixB_unfix a ha, ← fixB_unfix b hb, h, hl]
theorem set_lt {l : List Nat} {i y : Nat} (hl : ∀ x ∈ l, x < 256) (hy : y < 256) : ∀ x ∈ l.set i y, x < 256 := by
  intro x hx
  rcases mem_set hx with hx | rfl
  · exact hl x hx
  · exact hy
/-- one byte changed -/
theorem spoilt_no (b : List Nat) (hb : ∀ x ∈ b, x < 256) (hok : decOK b = true) (i y : Nat) (hi : i < 512) (hy : y < 256) (hne : b.getD i 0 ≠ y) : decOK (b.set i y) = false := by
  rw [Bool.eq_false_iff]
  intro h
  unfold decOK at hok h
  simp only [Bool.and_eq_true, decide_eq_true_eq] at hok h
  obtain ⟨hl, hc, _⟩ := hok
  obtain ⟨_, hc', _⟩ := h
  have hg : b.getD i 0 = b[i]'(by omega) := by simp [List.getD, List.getElem?_eq_getElem (show i < b.length by omega)]
  rw [hg] at hne
  by_cases h4 : i < 4
  · rw [List.take_set, List.drop_set_of_lt h4, ← hc] at hc'
    have e := unfix_inj (set_lt (fun x hx => hb x (List.mem_of_mem_take hx)) hy) (fun x hx => hb x (List.mem_of_mem_take hx)) (by simp) hc'
    have e2 : ((b.take 4).set i y)[i]? = (b.take 4)[i]? := by rw [e]
    rw [List.getElem?_set_self (by rw [List.length_take]; omega), List.getElem?_take_of_lt h4, List.getElem?_eq_getElem (by omega)] at e2
    injection e2 with e2
    exact hne e2.symm
  · rw [List.take_set_of_le (by omega), hc, List.drop_set, if_neg h4] at hc'
    have hlt : i - 4 < (b.drop 4).length := by rw [List.length_drop]; omega
    have hs : (b.drop 4).set (i - 4) y = (b.drop 4).take (i - 4) ++ y :: (b.drop 4).drop (i - 4 + 1) := by rw [List.set_eq_take_append_cons_drop, if_pos hlt]
    have hd : b.drop 4 = (b.drop 4).take (i - 4) ++ (b.drop 4)[i - 4] :: (b.drop 4).drop (i - 4 + 1) := by
      rw [← List.drop_eq_getElem_cons hlt, List.take_append_drop]
    rw [hs] at hc'
    have hx : (b.drop 4)[i - 4] = b[i]'(by omega) := by
      rw [List.getElem_drop]
      congr 1
      omega
    have hdl : ∀ x ∈ b.drop 4, x < 256 := fun x hx => hb x (List.mem_of_mem_drop hx)
    have hc2 := hc'
    conv at hc2 => lhs; rw [hd]
    refine more_ne _ _ _ _ (fun x hx => hdl x (List.mem_of_mem_take hx)) (fun x hx => hdl x (List.mem_of_mem_drop hx)) (hdl _ (List.getElem_mem hlt)) hy ?_ hc2
    rw [hx]
    exact hne
theorem xor_ne {x d : Nat} (hd : 0 < d) : x ≠ x ^^^ d := by
  intro e
  have h1 : x ^^^ x = x ^^^ (x ^^^ d) := by rw [← e]
  rw [Nat.xor_self, ← Nat.xor_assoc, Nat.xor_self, Nat.zero_xor] at h1
  omega
theorem xor_lt8 {x d : Nat} (hx : x < 256) (hd : d < 256) : x ^^^ d < 256 := Nat.xor_lt_two_pow (n := 8) hx hd
end Go.Proofs.Ytajmpoanmdgmpaa
namespace Go.Proofs.Ytajmpoanmdgmpaa.pageSpoilt
open Go.RowKit

set_option maxHeartbeats 4000000 in
set_option maxRecDepth 100000 in
theorem walked (p : PV) (at_ : Int) (d : Nat) (w : World) (h : p.In w All All) (_ : -9223372036854775808 ≤ at_) (_ : at_ ≤ 9223372036854775807) (hd : d < 256) : Calls Try.prog 9 #[p.agg, .int .i64 at_, .int .u8 d] w fun e w' => e = .returned (.bool true) ∧ Below w.heap.size w w' := by
  obtain ⟨W, hW, hBW, hbx, hsz⟩ := box_page w p
  obtain ⟨y0, y1, y2, y3⟩ := pcs_cells hbx
  have HP := Lib.hid (h.below hBW)
  have HBW := Lib.hid hBW
  have HBX := Lib.hid hbx
  have HSZ := Lib.hid hsz
  have HLO := Lib.hid (long_any p W (h.below hBW))
  have HAL := Lib.hid (fun W' => alive_any W')
  have hpi := h.below hBW
  obtain ⟨pk, ps, px, A, n, c, l⟩ := p
  simp only at hW y0 y1 y2 y3
  simp only [PV.agg] at HLO ⊢
  clear h hBW hbx hsz
  go_enter Try.func9, Try.ntmps9
  go_wp2_with fail
  refine HLO.out.mono ?_
  rintro e w1 ⟨b, rfl, hb1, hfew⟩
  have HB1 := Lib.hid hb1
  obtain ⟨y0, y1, y2, y3⟩ := pcs_cells (HBX.out.below hb1 (by have := HSZ.out; omega))
  simp only at y0 y1 y2 y3
  cases b with
  | true =>
    clear hb1
    go_wp2_with fail
    refine (HAL.out _).mono ?_
    rintro e w2 ⟨rfl, hb2⟩
    have HB2 := Lib.hid (HB1.out.trans (hb2.mono HB1.out.size))
    clear hb2
    go_wp2_with fail
    go_ret
    exact ⟨rfl, HBW.out.trans (HB2.out.mono HBW.out.size)⟩
  | false =>
    have hf := hfew rfl
    have hp1 := hpi.below hb1
    cases hmay : may pk (⟨pk, ps, px, A, n, c, l⟩ : PV).es with
    | false =>
      have HEN := Lib.hid (encode_no ⟨pk, ps, px, A, n, c, l⟩ w1 hp1 hf hmay)
      simp only [PV.agg] at HEN
      clear hb1 hfew hf hp1 hpi hmay
      go_wp2_with fail
      refine HEN.out.mono ?_
      rintro e w2 ⟨rfl, hb2⟩
      have HB2 := Lib.hid (HB1.out.trans (hb2.mono HB1.out.size))
      clear hb2
      go_wp2_with fail
      refine (HAL.out _).mono ?_
      rintro e w3 ⟨rfl, hb3⟩
      have HB3 := Lib.hid (HB2.out.trans (hb3.mono HB2.out.size))
      clear hb3
      go_wp2_with fail
      go_ret
      exact ⟨rfl, HBW.out.trans (HB3.out.mono HBW.out.size)⟩
    | true =>
      obtain ⟨hpk, hkk⟩ : ∃ kn : Nat, pk = (kn : Int) ∧ kn < 256 := by
        have := (may_parts hmay).2
        rcases this with h | h | h
        · exact ⟨1, h, by omega⟩
        · exact ⟨2, h, by omega⟩
        · exact ⟨3, h, by omega⟩
      obtain ⟨hkk, hk256⟩ := hkk
      have hces : ∀ cc ∈ (⟨pk, ps, px, A, n, c, l⟩ : PV).es, cc.k < 4294967296 ∧ ∀ y ∈ cc.d, y < 256 := fun cc hcc => by
        obtain ⟨xx, hxx, rfl⟩ := List.mem_map.1 hcc
        exact ⟨(hp1.r.2.1 xx hxx).k, (hp1.r.2.1 xx hxx).b.lt⟩
      have hen := encode_yes ⟨pk, ps, px, A, n, c, l⟩ w1 hp1 hf hmay
      simp only [PV.agg] at hen
      have hdk : decOK (encB pk.toNat ps px (⟨pk, ps, px, A, n, c, l⟩ : PV).es) = true := by
        have e1 : pk.toNat = hpk := by omega
        rw [e1]
        exact (enc_dec hpk ps px _ (by rw [← hkk]; exact hmay) hk256 hp1.s hp1.x (fun cc hcc => (hces cc hcc).1) fun cc hcc => (hces cc hcc).2).1
      have hzl := encB_lt pk.toNat ps px (⟨pk, ps, px, A, n, c, l⟩ : PV).es fun cc hcc => (hces cc hcc).2
      obtain ⟨Z, hZ⟩ : ∃ Z, Z = encB pk.toNat ps px (⟨pk, ps, px, A, n, c, l⟩ : PV).es := ⟨_, rfl⟩
      rw [← hZ] at hen hdk hzl
      have HEN := Lib.hid hen
      have HDK := Lib.hid hdk
      have HZL := Lib.hid hzl
      clear hb1 hfew hf hp1 hpi hmay hkk hk256 hces hen hdk hzl hZ
      go_wp2_with fail
      refine HEN.out.mono ?_
      rintro e w2 ⟨v2, rfl, ho2, hb2⟩
      have ho2' : Ow w2 (fun b => w1.heap.size ≤ b) v2 512 Z := ho2
      obtain ⟨A2, c2, rfl, hc2, _, hr2⟩ := ho2'.reads
      have HB2 := Lib.hid (HB1.out.trans (hb2.mono HB1.out.size))
      have HWB := Lib.hid (WB.of_ow ho2')
      have HR2 := Lib.hid hr2
      have HC2 := Lib.hid hc2
      have HS2 := Lib.hid hb2.size
      clear ho2 ho2' hb2 hr2 hc2
      by_cases hneg : at_ < 0
      · have d0 : decide (at_ < 0) = true := decide_eq_true hneg
        clear hneg
        go_wp2_with fail
        refine (HAL.out _).mono ?_
        rintro e w3 ⟨rfl, hb3⟩
        have HB3 := Lib.hid (HB2.out.trans (hb3.mono HB2.out.size))
        clear hb3
        go_wp2_with fail
        go_ret
        exact ⟨rfl, HBW.out.trans (HB3.out.mono HBW.out.size)⟩
      · have d0 : decide (at_ < 0) = false := decide_eq_false hneg
        by_cases hd0 : d = 0
        · have z0 : ((d : Int) == 0) = true := by rw [beq_iff_eq]; omega
          clear hneg hd0
          go_wp2_with fail
          refine (HAL.out _).mono ?_
          rintro e w3 ⟨rfl, hb3⟩
          have HB3 := Lib.hid (HB2.out.trans (hb3.mono HB2.out.size))
          clear hb3
          go_wp2_with fail
          go_ret
          exact ⟨rfl, HBW.out.trans (HB3.out.mono HBW.out.size)⟩
        · have z0 : ((d : Int) == 0) = false := beq_false_of_ne (by omega)
          obtain ⟨i, hi⟩ : ∃ i : Nat, (i : Int) = at_ % 512 := ⟨(at_ % 512).toNat, by omega⟩
          have hi512 : i < 512 := by omega
          have m1 : at_ % 512 = (i : Int) := hi.symm
          have m2 : at_.tmod 512 = (i : Int) := by rw [Int.tmod_eq_emod_of_nonneg (by omega), hi]
          have hin : ((i : Int) < 512) := by omega
          obtain ⟨A2', c2', e2, hwb⟩ := HWB.out
          injection e2 with e2 _ e3
          subst e2 e3
          obtain ⟨lz, hrz, hfz0⟩ := hwb
          obtain ⟨ad, rfl, hx, hcell⟩ := HR2.out.at_ hi512
          have hfz := hfz0 ad rfl i hi512
          obtain ⟨x, hxe⟩ : ∃ x, x = Z.getD i 0 := ⟨_, rfl⟩
          rw [← hxe] at hx hcell
          obtain ⟨y, hy⟩ : ∃ y, y = x ^^^ d := ⟨_, rfl⟩
          have hxor : bits BinOp.xor .u8 (x : Int) (d : Int) = (y : Int) := by rw [hy]; exact u8_xor_nat x d hx hd
          have hy256 : y < 256 := by rw [hy]; exact xor_lt8 hx hd
          have HRN := Lib.hid (HR2.out.set_ hi512 hy256)
          have HNO := Lib.hid (spoilt_no Z HZL.out HDK.out i y hi512 hy256 (by rw [← hxe, hy]; exact xor_ne (by omega)))
          have hSad : w1.heap.size ≤ ad.block := by
            obtain ⟨ad', e', _, hs, _⟩ := HR2.out.2.2 (by omega)
            injection e' with e'
            subst e'
            exact hs
          have HSAD := Lib.hid hSad
          clear hneg hd0 hi hrz hfz0 hxe hy hSad HWB
          go_wp2_with fail
          go_region
          have HB3 := Lib.hid (show Below W.heap.size W (w2.setCell (ad.add i) (.int .u8 (y : Int))).drew from (HB2.out.setCell (by rw [block_of_add]; exact Nat.le_trans HB1.out.size HSAD.out) _).drew)
          have HRD := Lib.hid (show RB (w2.setCell (ad.add i) (.int .u8 (y : Int))).drew All (some ad) 512 (Z.set i y) from (HRN.out.mono fun _ _ _ => trivial).keep (Fr.refl _ No).drew fun _ _ hn => hn)
          obtain ⟨w3, hw3⟩ : ∃ w3, w3 = (w2.setCell (ad.add i) (.int .u8 (y : Int))).drew := ⟨_, rfl⟩
          rw [← hw3] at HB3 HRD ⊢
          have HDE := Lib.hid (decode_any w3 (some ad) 512 c2 (Z.set i y) HRD.out HC2.out)
          clear hw3 hcell hfz
          go_wp2_with fail
          with_reducible refine HDE.out.mono ?_
          rintro e w4 ⟨q, rfl, S, T, hpo, hS, hT, hb4, hqk, hqs, hqx, hqe⟩
          rw [HNO.out]
          have hdp : decP (Z.set i y) = ⟨0, 0, 0, []⟩ := by unfold decP; rw [HNO.out, if_neg (by simp)]
          rw [hdp] at hqk hqs hqx hqe
          have HB4 := Lib.hid (HB3.out.trans (hb4.mono HB3.out.size))
          obtain ⟨W5, hW5, hB5, hbx5, hsz5⟩ := box_page w4 q
          obtain ⟨t0, t1, t2, t3⟩ := pcs_cells hbx5
          have hqi5 : q.In W5 All All := hpo.In.all.below hB5
          have hsame : sameP q PV.zero = true := by
            unfold sameP
            rw [hqk, hqs, hqx, hqe]
            simp [PV.zero, PV.es]
          have HSM := Lib.hid hsame
          have HQI := Lib.hid hqi5
          have HB5 := Lib.hid (HB4.out.trans (hB5.mono HB4.out.size))
          have HZI := Lib.hid (show PV.zero.In W5 All All from ⟨CR.nil_ _, Nat.le_refl _, fun _ => rfl, by show (_ : Int) ≤ 0; omega, by show (0 : Int) ≤ _; omega, by show 0 < _; omega, by show 0 < _; omega⟩)
          have hsa := same_any q PV.zero W5 hqi5 HZI.out
          rw [hsame] at hsa
          have HSA : Hid (Calls Try.prog 22 #[q.agg, .agg #[.int .i64 0, .int .u64 0, .int .u32 0, .slice none 0 0]] W5 fun e w' => e = .returned (.bool true) ∧ Below W5.heap.size W5 w') := hsa
          simp only [PV.agg] at HSA
          clear hsa
          clear hpo hS hT hb4 hqk hqs hqx hqe hB5 hbx5 hsz5 hqi5 hsame hdp
          obtain ⟨qk, qs, qx, qA, qn, qc, ql⟩ := q
          simp only at hW5 t0 t1 t2 t3 HSA
          simp only [PV.agg]
          go_wp2_with fail
          with_reducible refine HSA.out.mono ?_
          rintro e w6 ⟨rfl, hb6⟩
          have HB6 := Lib.hid (HB5.out.trans (hb6.mono HB5.out.size))
          clear hb6
          go_wp2_with fail
          refine (HAL.out _).mono ?_
          rintro e w7 ⟨rfl, hb7⟩
          have HB7 := Lib.hid (HB6.out.trans (hb7.mono HB6.out.size))
          clear hb7
          go_wp2_with fail
          go_ret
          exact ⟨rfl, HBW.out.trans (HB7.out.mono HBW.out.size)⟩
end Go.Proofs.Ytajmpoanmdgmpaa.pageSpoilt
