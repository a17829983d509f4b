/-
  THE WALK OF THE document's Decode.
-/
import Derived.Test.YtiilhnedflmgoaaWalkR
namespace Go.Proofs.Ytiilhnedflmgoaa
open Go.RowKit Go.Sort

theorem ext_end (s : ByteArray) (q : Nat) (h : q ≤ s.size) : sb (s.extract q s.size) = (sb s).drop q ∧ (s.extract q s.size).size = s.size - q := by
  obtain ⟨a, b⟩ := extract_sb s q (s.size - q) (by omega)
  rw [show q + (s.size - q) = s.size by omega] at a b
  refine ⟨?_, b⟩
  rw [a, List.take_of_length_le]
  rw [List.length_drop, sb_len]
  omega
theorem bit_mod (x r : Nat) : (x / 2 ^ r % 2 = 1) ↔ x.testBit r = true := by
  rw [Nat.testBit_eq_decide_div_mod_eq]
  simp
/-- the rows so far are the beginning of what is read -/
def Sofar (m : List Nat) (cs : List C) (l0 : List Nat) (n k : Nat) (l : List Nat) (rows : List V) : Prop :=
  rows.length = min k n ∧ rdC m 0 cs l0 = (rdC m (min k n) (cs.drop (min k n)) l).map fun z => (rows ++ z.1, z.2)
theorem rdC_step {m : List Nat} {cs : List C} {k : Nat} {c : C} {l : List Nat} (hc : cs[k]? = some c) : rdC m k (cs.drop k) l = match rdV (if bitAt m k = true then 0 else c.k) l with | some (v, r) => (rdC m (k + 1) (cs.drop (k + 1)) r).map fun z => (v :: z.1, z.2) | none => none := by
  rw [drop_get hc]
  rfl
theorem Sofar.more {m : List Nat} {cs : List C} {l0 : List Nat} {n k : Nat} {l r : List Nat} {rows : List V} {c : C} {v : V} (h : Sofar m cs l0 n k l rows) (hk : k < n) (hc : cs[k]? = some c) (hv : rdV (if bitAt m k = true then 0 else c.k) l = some (v, r)) : Sofar m cs l0 n (k + 1) r (rows ++ [v]) := by
  obtain ⟨h1, h2⟩ := h
  rw [Nat.min_eq_left (by omega)] at h1 h2
  unfold Sofar
  rw [Nat.min_eq_left (by omega)]
  refine ⟨by simp [h1], ?_⟩
  rw [h2, rdC_step hc, hv]
  simp [Option.map_map, Function.comp_def]
theorem Sofar.none_ {m : List Nat} {cs : List C} {l0 : List Nat} {n k : Nat} {l : List Nat} {rows : List V} {c : C} (h : Sofar m cs l0 n k l rows) (hk : k < n) (hc : cs[k]? = some c) (hv : rdV (if bitAt m k = true then 0 else c.k) l = none) : rdC m 0 cs l0 = none := by
  obtain ⟨h1, h2⟩ := h
  rw [Nat.min_eq_left (by omega)] at h2
  rw [h2, rdC_step hc, hv]
  rfl
theorem Sofar.skip {m : List Nat} {cs : List C} {l0 : List Nat} {n k : Nat} {l : List Nat} {rows : List V} (h : Sofar m cs l0 n k l rows) (hk : n ≤ k) : Sofar m cs l0 n (k + 1) l rows := by
  unfold Sofar at h ⊢
  rw [Nat.min_eq_right hk] at h
  rw [Nat.min_eq_right (by omega)]
  exact h
theorem Sofar.done {m : List Nat} {cs : List C} {l0 : List Nat} {n k : Nat} {l : List Nat} {rows : List V} (h : Sofar m cs l0 n k l rows) (hk : n ≤ k) (hn : cs.length = n) : rdC m 0 cs l0 = some (rows, l) := by
  unfold Sofar at h
  rw [Nat.min_eq_right hk] at h
  rw [h.2, List.drop_of_length_le (by omega)]
  simp [rdC]
theorem bit_take {l : List Nat} {M k : Nat} (hk : k < 8 * M) : bitAt (l.take M) k = bitAt l k := by
  unfold bitAt
  rw [List.getD_eq_getElem?_getD, List.getElem?_take, if_pos (by omega), ← List.getD_eq_getElem?_getD]
theorem beyond_no {m : List Nat} {n M : Nat} (hm : m.length = M) (h : ∀ j, n ≤ j → j < 8 * M → bitAt m j = false) : beyond m n = false := by
  rw [Bool.eq_false_iff]
  intro e
  obtain ⟨i, h1, h2, h3⟩ := (beyond_iff m n).1 e
  rw [hm] at h2
  rw [h i h1 h2] at h3
  cases h3

set_option maxRecDepth 100000 in
set_option maxHeartbeats 16000000 in
theorem rdecode_any (A : Option Addr) (n c : Nat) (cs : List C) (s : ByteArray) (w : World) (ha : RC w A n cs) (hs : s.size ≤ 9223372036854775807) :
    Calls Try.prog 20 #[.slice A n c, .string s] w (Dec w cs s) := by
  have hlc := Lib.hid ha.1
  have HC := Lib.hid ha
  have HM := Lib.hid (rmayC_any A n c cs w ha)
  clear ha
  cases em : mayC cs with
  | false =>
    have EM := Lib.hid em
    rw [em] at HM
    clear em
    go_enter Try.func20, Try.ntmps20
    go_wp2_with fail
    refine HM.out.mono ?_
    rintro e w1 ⟨rfl, hb1⟩
    have HB1 := Lib.hid hb1
    clear hb1
    go_wp2
    go_ret2
    exact Dec.cols EM.out HB1.out
  | true =>
    have EM := Lib.hid em
    rw [em] at HM
    have hn16 : 1 ≤ n ∧ n ≤ 16 := by
      have := (mayC_iff cs).1 em
      rw [hlc.out] at this
      exact ⟨this.1, this.2.1⟩
    obtain ⟨hn1, hn16⟩ := hn16
    clear em
    have hM3 : mB n ≤ 3 := by unfold mB; omega
    have hM8 : n ≤ 8 * mB n := by unfold mB; omega
    have hM1 : 1 ≤ mB n := by unfold mB; omega
    have e7 : ((n : Int) + 7) / 8 = ((mB n : Nat) : Int) := by unfold mB; omega
    have e7t : ((n : Int) + 7).tdiv 8 = ((mB n : Nat) : Int) := by rw [Int.tdiv_eq_ediv_of_nonneg (by omega)]; exact e7
    have HME : Hid (mB cs.length = mB n) := by show _ = _; rw [hlc.out]
    generalize mB n = M at *
    by_cases hshort : s.size < M
    · have hd0 : decide ((s.size : Int) < (M : Int)) = true := decide_eq_true (by omega)
      have HN := Lib.hid (decO_short (cs := cs) (s := s) (by rw [HME.out]; exact hshort))
      go_enter Try.func20, Try.ntmps20
      go_wp2_with fail
      refine HM.out.mono ?_
      rintro e w1 ⟨rfl, hb1⟩
      have HB1 := Lib.hid hb1
      clear hb1
      go_wp2
      go_ret2
      exact Dec.no EM.out HN.out HB1.out
    · have hd0 : decide ((s.size : Int) < (M : Int)) = false := decide_eq_false (by omega)
      by_cases h160 : 160 < s.size
      · have hd : decide ((s.size : Int) > 160) = true := decide_eq_true (by omega)
        have HN := Lib.hid (decO_long (cs := cs) h160)
        go_enter Try.func20, Try.ntmps20
        go_wp2_with fail
        refine HM.out.mono ?_
        rintro e w1 ⟨rfl, hb1⟩
        have HB1 := Lib.hid hb1
        clear hb1
        go_wp2
        go_ret2
        exact Dec.no EM.out HN.out HB1.out
      · have hd : decide ((s.size : Int) > 160) = false := decide_eq_false (by omega)
        have hmlen : ((sb s).take M).length = M := by simp [sb_len]; omega
        have HBY : Hid (beyond ((sb s).take M) n = true → decO cs s = none) := fun h => decO_beyond (by rw [HME.out, hlc.out]; exact h)
        have HGO : Hid (beyond ((sb s).take M) n = false → decO cs s = decR cs (sb s)) := fun h => decO_go h160 (by rw [HME.out]; exact hshort) (by rw [HME.out, hlc.out]; exact h)
        have HRN : Hid (rdC ((sb s).take M) 0 cs ((sb s).drop M) = none → decR cs (sb s) = none) := fun h => decR_none (by rw [HME.out]; exact h)
        have HRL : Hid (∀ row q, rdC ((sb s).take M) 0 cs ((sb s).drop M) = some (row, q) → q ≠ [] → decR cs (sb s) = none) := fun row q h => decR_left (by rw [HME.out]; exact h)
        have HRU : Hid (∀ row, rdC ((sb s).take M) 0 cs ((sb s).drop M) = some (row, []) → fitsE cs row ≠ 0 → decR cs (sb s) = none) := fun row h => decR_unfit (by rw [HME.out]; exact h)
        have HRS : Hid (∀ row, rdC ((sb s).take M) 0 cs ((sb s).drop M) = some (row, []) → fitsE cs row = 0 → decR cs (sb s) = some row) := fun row h => decR_some (by rw [HME.out]; exact h)
        have HDN : Hid (rdC ((sb s).take M) 0 cs ((sb s).drop M) = none → decO cs s = none) := fun h => by
          cases hb : beyond ((sb s).take M) n with
          | true => exact HBY.out hb
          | false => rw [HGO.out hb]; exact HRN.out h
        have HML := Lib.hid hmlen
        have HBT : Hid (∀ k, k < 8 * M → bitAt ((sb s).take M) k = bitAt (sb s) k) := fun k hk => bit_take hk
        have HS0 : Hid (Sofar ((sb s).take M) cs ((sb s).drop M) n 0 ((sb s).drop M) []) := ⟨by simp, by simp⟩
        generalize (sb s).take M = m at *
        obtain ⟨l0, hl0⟩ : ∃ l0, l0 = (sb s).drop M := ⟨_, rfl⟩
        have HL0 := Lib.hid hl0
        rw [← hl0] at HRN HRL HRU HRS HDN HS0
        clear hmlen HME hl0
        go_enter Try.func20, Try.ntmps20
        go_wp2_with fail
        refine HM.out.mono ?_
        rintro e w1 ⟨rfl, hb1⟩
        have HB1 := Lib.hid hb1
        have hsz1 := hb1.size
        clear hb1 HM
        go_wp2
        go_loopw [7, 8, 9] (fun u0 q0 i wr => ∃ (k q : Nat) (u : Value) (rows : List V), u = u0 ∧ q0 = .int .i64 (q : Int) ∧ i = .int .i64 (k : Int) ∧ k ≤ 8 * M ∧ q ≤ s.size ∧ OwnV w wr u rows ∧ Hid (Sofar m cs l0 n k ((sb s).drop q) rows) ∧ Hid (∀ j, n ≤ j → j < k → bitAt m j = false)) (fun _ _ i _ => 8 * M - (intOf i).toNat)
        case atStart => exact ⟨0, M, _, [], rfl, rfl, rfl, by omega, by omega, OwnV.nil_at HB1.out, (show Sofar _ _ _ _ _ _ _ by rw [← HL0.out]; exact HS0.out), fun j h1 h2 => by omega⟩
        case round =>
          obtain ⟨k, q, u, rows, rfl, rfl, rfl, hk, hq, ho, HSF, HBZ⟩ := hrel
          have HO := Lib.hid ho
          have HW := Lib.hid ho.2
          have hsz := ho.2.size
          clear ho HS0 HB1
          have hrl : rows.length ≤ 16 := by have := HSF.out.1; omega
          have h8M : IntKind.i64.wrap (8 * (M : Int)) = ((8 * M : Nat) : Int) := by rw [IntWalk.i64_in _ (by omega)]; omega
          by_cases hlt : k < 8 * M
          · obtain ⟨b, hb⟩ : ∃ b, b = k / 8 := ⟨_, rfl⟩
            have hbM : b < s.size := by omega
            have hk1 : (k : Int) / 8 = (b : Int) := by omega
            have hk2 : (k : Int).tdiv 8 = (b : Int) := by rw [quo8, hb]
            have hbit : bitAt m k = (s[b].toNat).testBit (k % 8) := by
              rw [HBT.out k hlt]
              unfold bitAt
              rw [← hb, sb_getD s b hbM]
            have hmod := bit_mod s[b].toNat (k % 8)
            obtain ⟨x, hx⟩ : ∃ x, x = s[b].toNat := ⟨_, rfl⟩
            rw [← hx] at hbit hmod
            replace hx := hx.symm
            obtain ⟨y, hy⟩ : ∃ y, y = x / 2 ^ (k % 8) := ⟨_, rfl⟩
            rw [← hy] at hmod
            have hsh : (x : Int) / 2 ^ (k % 8) = (y : Int) := by rw [hy]; simp
            have hwb : IntKind.i64.wrap (b : Int) = (b : Int) := IntWalk.i64_in _ (by omega)
            have hkd : decide ((k : Int) < ((8 * M : Nat) : Int)) = true := decide_eq_true (by omega)
            have hkd2 : decide ((k : Int) < 8 * (M : Int)) = true := decide_eq_true (by omega)
            rw [← hbit] at hmod
            clear hbit hy hb
            by_cases hkn : n ≤ k
            · have hge : decide ((k : Int) ≥ (n : Int)) = true := decide_eq_true (by omega)
              have hknN : ¬ k < n := by omega
              cases hbt : bitAt m k with
              | true =>
                have hy1 : (y : Int) % 2 = 1 := by have := hmod.2 hbt; omega
                have HN : Hid (decO cs s = none) := HBY.out ((beyond_iff m n).2 ⟨k, hkn, by rw [HML.out]; exact hlt, hbt⟩)
                clear hbt hmod
                go_wp2
                go_ret2
                exact Dec.no EM.out HN.out HW.out
              | false =>
                have hy1 : (y : Int) % 2 = 0 := by rw [hbt] at hmod; simp at hmod; omega
                have HZ2 : Hid (∀ j, n ≤ j → j < k + 1 → bitAt m j = false) := fun j h1 h2 => by
                  rcases Nat.lt_or_ge j k with h | h
                  · exact HBZ.out j h1 h
                  · obtain rfl : j = k := by omega
                    exact hbt
                have HSF2 := Lib.hid (HSF.out.skip hkn)
                clear hbt hmod
                go_wp2
                go_roundw
                case rel => exact ⟨k + 1, q, _, rows, rfl, rfl, by go_num, by omega, hq, HO.out, HSF2, HZ2⟩
                case measure => simp [intOf]; omega
            · have hkn' : k < n := by omega
              have hge : decide ((k : Int) ≥ (n : Int)) = false := decide_eq_false (by omega)
              have HZ2 : Hid (∀ j, n ≤ j → j < k + 1 → bitAt m j = false) := fun j h1 h2 => by omega
              obtain ⟨gc, oc, cc, rfl, hg, hcv, hcok, b0, b1, b2⟩ := (HC.out.below HW.out).at_ hkn'
              have HCV := Lib.hid hcv
              have hck := kind_of EM.out (List.mem_of_getElem? hcv)
              clear hcv hcok
              cases hbt : bitAt m k with
              | true =>
                have hy1 : (y : Int) % 2 = 1 := by have := hmod.2 hbt; omega
                have HSF2 := Lib.hid (HSF.out.more hkn' HCV.out (v := v0) (r := (sb s).drop q) (by rw [hbt]; rfl))
                clear hbt hmod
                go_wp2_with (at_builtin; go_must (refine wpList_appV rfl (.tmp 51) (.tmp 53) rfl u _ rows rfl (HO.out.alloc _).1 _ 1 1 [v0] rfl (by exact RV.one _ _ _ _ _ (by simp) v0_ok) (by omega) ?_); intro v1 w4 hown hgrow; have HS := Lib.hid (OwnV.step (HO.out.alloc _) hgrow hown); clear hown hgrow)
                go_roundw
                case rel => exact ⟨k + 1, q, _, rows ++ [v0], rfl, rfl, by go_num, by omega, hq, HS.out, HSF2, HZ2⟩
                case measure => simp [intOf]; omega
              | false =>
                have hy1 : (y : Int) % 2 = 0 := by rw [hbt] at hmod; simp at hmod; omega
                have hkk : (if bitAt m k = true then 0 else cc.k) = cc.k := by rw [hbt]; rfl
                have HMORE := Lib.hid (fun v r => HSF.out.more hkn' HCV.out (v := v) (r := r))
                have HNONE := Lib.hid (HSF.out.none_ hkn' HCV.out)
                rw [hkk] at HMORE HNONE
                obtain ⟨x1, x2⟩ := ext_end s q hq
                have HRR := Lib.hid (fun W => rread_any cc.k hck (s.extract q s.size) (by omega) W)
                unfold RRd at HRR
                rw [x1, x2] at HRR
                have hwk : IntKind.i64.wrap (k : Int) = (k : Int) := IntWalk.i64_in _ (by omega)
                have hwq : IntKind.i64.wrap (q : Int) = (q : Int) := IntWalk.i64_in _ (by omega)
                obtain ⟨cn, ck, cd⟩ := cc
                simp only at b0 b1 b2 HRR HMORE HNONE
                have hd1 : wr.drew.cell? ⟨gc, oc + k * 3 + 1, none⟩ = _ := b1
                have hd2 : (wr.alloc (.cells #[.int .i64 0, .int .i64 0, .string ⟨#[]⟩] 40)).drew.cell? ⟨gc, oc + k * 3 + 1, none⟩ = _ := (World.cell?_alloc_lt wr _ _ hg).trans b1
                clear hbt hmod hkk x1 x2
                go_wp2_with fail
                go_cut [11, 12] from 30 to 75 (fun v11 v12 wx => ∃ (g2 mm : Nat) (v : V), v11 = .pointer (some ⟨g2, 0, none⟩) ∧ v12 = .int .i64 (mm : Int) ∧ Box wx g2 0 v.k v.n v.s ∧ Below wr.heap.size wr wx ∧ ((mm = 0 ∧ rdV ck ((sb s).drop q) = none) ∨ (0 < mm ∧ mm ≤ s.size - q ∧ rdV ck ((sb s).drop q) = some (v, ((sb s).drop q).drop mm) ∧ VOk v)))
                case first =>
                  clear HMORE HNONE HO HSF HBZ HZ2 HRN HRL HRU HRS HDN HBY HGO
                  go_region_with (refine (HRR.out _).mono ?_; rintro e w3 ⟨hb3, v, mm, rfl, hcase⟩; have HB3 := Lib.hid hb3; have HCS := Lib.hid hcase; clear hcase; first | (obtain ⟨⟨z0, z1, z2⟩, f0, f1, f2⟩ := Zero.facts (Blk.below (Blk.drew (Zero.new wr)) hb3 (by simp))) | skip; clear hb3)
                  all_goals
                    go_wp2_with fail
                    go_meet
                  all_goals first
                    | exact ⟨_, _, v, rfl, rfl, Box.new w3 v.k v.n v.s, (((Below.refl wr.heap.size wr).drew.trans HB3.out).alloc HB3.out.size _), HCS.out⟩
                    | (refine ⟨_, _, v, rfl, rfl, ?_, ?_, HCS.out⟩
                       · have hz := Blk.below (Blk.drew (Zero.new wr)) HB3.out (by simp)
                         have h3 := ((hz.set_ 0 (.int .i64 v.k)).set_ 1 (.int .i64 v.n)).set_ 2 (.string v.s)
                         exact ⟨h3.cell 0, h3.cell 1, h3.cell 2⟩
                       · have h1 : Below wr.heap.size wr w3 := (((Below.refl _ wr).alloc (Nat.le_refl _) (.cells #[.int .i64 0, .int .i64 0, .string ⟨#[]⟩] 40)).drew).trans (HB3.out.mono (by simp))
                         exact ((h1.setCell (p := ⟨wr.heap.size, 0, none⟩) (Nat.le_refl _) _).setCell (p := ⟨wr.heap.size, 1, none⟩) (Nat.le_refl _) _).setCell (p := ⟨wr.heap.size, 2, none⟩) (Nat.le_refl _) _)
                case rest =>
                  obtain ⟨g2, mm, v, rfl, rfl, hbox, hbel, hcase⟩ := hcut
                  have HOX := Lib.hid (OwnV.up HO.out hbel)
                  obtain ⟨vk, vn, vt⟩ := v
                  obtain ⟨d0, d1, d2⟩ := hbox
                  simp only [Nat.zero_add] at d0 d1 d2
                  clear hd1 hd2 b0 b1 b2 hbel HRR HO
                  rcases hcase with ⟨rfl, hno⟩ | ⟨hm0, hmq, hsome, hvok⟩
                  · have HN : Hid (decO cs s = none) := HDN.out (HNONE.out hno)
                    clear hno
                    go_wp2
                    go_ret2
                    exact Dec.no EM.out HN.out HOX.out.2
                  · have hz1 : ((mm : Int) == 0) = false := beq_false_of_ne (by omega)
                    have HSF2 : Hid (Sofar m cs l0 n (k + 1) ((sb s).drop (q + mm)) (rows ++ [⟨vk, vn, vt⟩])) := by
                      have := HMORE.out _ _ hsome
                      rw [List.drop_drop] at this
                      exact this
                    have HVO := Lib.hid hvok
                    have hqm : q + mm ≤ s.size := by omega
                    clear hsome hvok HMORE HNONE HSF HBZ
                    go_wp2_with (at_builtin; go_must (refine wpList_appV rfl (.tmp 69) (.tmp 71) rfl u _ rows rfl (HOX.out.alloc _).1 _ 1 1 [⟨vk, vn, vt⟩] rfl (by exact RV.one _ _ _ _ _ (by simp) HVO.out) (by omega) ?_); intro v1 w4 hown hgrow; have HS := Lib.hid (OwnV.step (HOX.out.alloc _) hgrow hown); clear hown hgrow)
                    go_roundw
                    case rel => exact ⟨k + 1, q + mm, _, rows ++ [⟨vk, vn, vt⟩], rfl, by go_num, by go_num, by omega, hqm, HS.out, HSF2, HZ2⟩
                    case measure => simp [intOf]; omega
          · have hkd : decide ((k : Int) < ((8 * M : Nat) : Int)) = false := decide_eq_false (by omega)
            have hkd2 : decide ((k : Int) < 8 * (M : Int)) = false := decide_eq_false (by omega)
            have hby : beyond m n = false := beyond_no HML.out (fun j h1 h2 => HBZ.out j h1 (by omega))
            have HG := Lib.hid (HGO.out hby)
            have HD := Lib.hid (HSF.out.done (by omega) hlc.out)
            have hrn : rows.length = n := by have := HSF.out.1; omega
            clear HSF HBZ HBY HGO hby HDN HRN
            by_cases hqs : q = s.size
            · subst hqs
              have HD : Hid (rdC m 0 cs l0 = some (rows, [])) := by
                show _ = _
                rw [HD.out, List.drop_of_length_le (by rw [sb_len]; omega)]
              obtain ⟨A7, c7, rfl, _, _, _, hrv⟩ := HO.out.1.reads (by omega)
              rw [hrn] at hrv
              have HF := Lib.hid (rfits_any A n c cs A7 n c7 rows wr (HC.out.below HW.out) hrv)
              clear hrv
              by_cases hf0 : fitsE cs rows = 0
              · have HN : Hid (decO cs s = some rows) := by show _ = _; rw [HG.out]; exact HRS.out _ HD.out hf0
                rw [hf0] at HF
                clear hf0
                have HO7 : Hid (OwnV w wr (.slice A7 n c7) rows) := by have := HO.out; rw [hrn] at this; exact this
                rw [hrn]
                go_wp2_with fail
                refine HF.out.mono ?_
                rintro e w6 ⟨rfl, hb6⟩
                have HO8 := Lib.hid (OwnV.up HO7.out hb6)
                clear hb6
                go_wp2
                go_ret2
                exact Dec.yes EM.out HN.out HO8.out
              · have HN : Hid (decO cs s = none) := by show _ = _; rw [HG.out]; exact HRU.out _ HD.out hf0
                generalize fitsE cs rows = z at *
                have hz1 : (z == 0) = false := beq_false_of_ne hf0
                have hz2 : (z != 0) = true := bne_iff_ne.2 hf0
                clear hf0
                rw [hrn]
                go_wp2_with fail
                refine HF.out.mono ?_
                rintro e w6 ⟨rfl, hb6⟩
                have HB6 := Lib.hid (below_trans HW.out hb6)
                clear hb6
                go_wp2
                go_ret2
                exact Dec.no EM.out HN.out HB6.out
            · have HN : Hid (decO cs s = none) := by
                show _ = _
                rw [HG.out]
                refine HRL.out _ _ HD.out (fun e => hqs ?_)
                have := congrArg List.length e
                rw [List.length_drop, sb_len] at this
                simp at this
                omega
              have hz1 : ((q : Int) == (s.size : Int)) = false := beq_false_of_ne (by omega)
              have hz2 : ((q : Int) != (s.size : Int)) = true := bne_iff_ne.2 (by omega)
              go_wp2
              go_ret2
              exact Dec.no EM.out HN.out HW.out
end Go.Proofs.Ytiilhnedflmgoaa
