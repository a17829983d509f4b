/-
  STAGE 12: LockEnds, its walk.
-/
import Derived.Test.YtlblgfpafdfilaaDoorNI
namespace Go.Proofs.YtlblgfpafdfilaaDoor.lockEnds
open Go.RowKit Go.Sort

/-- who is next to give back, as far as place j -/
def Nx (ls : List LK) (j nx : Nat) : Prop := (nx = 0 ∧ ∀ l ∈ ls.take j, ls.any (waitsP l.t) = true) ∨ ∃ l ∈ ls, l.t = nx ∧ ls.any (waitsP l.t) = false
theorem Nx.next {ls : List LK} {j nx : Nat} (h : Nx ls j nx) {l : LK} (hl : ls[j]? = some l) (hw : ls.any (waitsP l.t) = true) : Nx ls (j + 1) nx := by
  rcases h with ⟨h1, h2⟩ | h
  · refine Or.inl ⟨h1, fun x hx => ?_⟩
    obtain ⟨hk, e⟩ := List.getElem?_eq_some_iff.1 hl
    rw [List.take_succ_eq_append_getElem hk] at hx
    rcases List.mem_append.1 hx with hx | hx
    · exact h2 x hx
    · rw [List.mem_singleton.1 hx, e]; exact hw
  · exact Or.inr h
theorem Nx.done {ls : List LK} {nx : Nat} (h : Nx ls ls.length nx) (hF : Fine ls) (hne : ls ≠ []) (hno : ∀ a, ¬ Wre ls a a) : nx ≠ 0 ∧ ∃ l ∈ ls, l.t = nx := by
  rcases h with ⟨h1, h2⟩ | ⟨l, hl, ht, _⟩
  · exfalso
    rw [List.take_length] at h2
    obtain ⟨l, hl, hw⟩ := someone hF hne hno
    rw [h2 l hl] at hw
    cases hw
  · have := (hF.1.good l hl).t
    exact ⟨by omega, l, hl, ht⟩
theorem cs_t {w : World} {b o : Nat} {l : LK} (h : Cs w b o l) : w.cell? ⟨b, o, none⟩ = some (.int .u32 (l.t : Int)) := h.1
theorem waits_zero {w0 w : World} {z g : Nat} (h : TL w0 w z g []) (hzs : z ≤ w0.heap.size) :
    Calls Tryd.prog 13 #[.pointer (some ⟨g, 0, none⟩)] w fun e w' => ∃ A c, e = .returned (.slice A 0 c) ∧ TL w0 w' z g [] :=
  (waits_fin h hzs).mono fun e w' ⟨A, c, pl, M, he, hM, _, hr, _, ht, _⟩ => by
    rw [waits_nilL hr] at hM
    subst hM
    exact ⟨A, c, he, ht⟩
theorem no_ring {ls : List LK} (hI : Inv ls) {v : Nat} (h : ∀ a, Wre ls a a → a ≤ v) (hv : v = 0) : ∀ a, ¬ Wre ls a a := fun a ha => by
  obtain ⟨r, y, hy, _, ht⟩ := ha.waits
  have := (hI.good y (List.mem_of_getElem? hy)).t
  have := h a ha
  omega
set_option maxRecDepth 100000 in
set_option maxHeartbeats 8000000 in
theorem walked (A : Option Addr) (n c : Nat) (l : List AV) (w : World) (h : AR w A n l) (hg : Gw w) :
    Calls Tryd.prog 5 #[.slice A n c] w fun e w' => e = .returned (.bool true) ∧ Below w.heap.size w w' := by
  have H := Lib.hid h
  obtain ⟨z, hz⟩ : ∃ z, z = w.heap.size := ⟨_, rfl⟩
  have HZ := Lib.hid hz
  have HZS := Lib.hid (show z ≤ w.heap.size by rw [hz]; exact Nat.le_refl _)
  have HPL := Lib.hid (played_any A n c l w h hg)
  rw [← hz] at HPL
  have HLG := Lib.hid (long_any w A n c l h)
  have HAL := Lib.hid (fun W (hb : Below w.heap.size w W) => alive_any W (hg.below hb))
  have HAT := Lib.hid (fun W ls (hb : TL w W z z ls) => alive_any W hb.gw)
  have HLN := Lib.hid h.len
  have HFP := Lib.hid (fine_play l)
  have HLP := Lib.hid (last_play l)
  have HPN := Lib.hid (playM_len l)
  generalize playM l = ls0 at HPL HFP HLP HPN
  clear h hg hz
  go_enter Tryd.func5, Tryd.ntmps5
  go_upto_region 1 with fail
  go_wp2_with (first
    | (go_at_call 8; with_reducible refine HLG.out.mono ?_; intro e w1 hl; obtain ⟨r, he, hw, hr⟩ := LongO.out hl; subst he; have hw' := hw.symm; subst hw'; clear hl)
    | (go_at_call 9; with_reducible refine (HAL.out _ (Below.refl _ _)).mono ?_; rintro e w2 ⟨rfl, hb2⟩; have HB2 := Lib.hid hb2; clear hb2)
    | (go_at_call 23; with_reducible refine HPL.out.mono ?_; rintro e w1 ⟨rfl, h1⟩; have H1 := Lib.hid h1; have HV := Lib.hid (victim_fin h1 HZS.out HFP.out HLP.out); obtain ⟨v, hv0, hvm, hvc⟩ := HV.out; have HVC := Lib.hid hvc; have HV0 := Lib.hid hv0; have HVM := Lib.hid hvm; clear h1 hvc hvm hv0)
    | (go_at_call 17; with_reducible refine (HVC.out _ H1.out).mono ?_; rintro e w2 ⟨rfl, h2, _⟩; have H2 := Lib.hid h2; clear h2))
  · go_ret
    exact ⟨rfl, HB2.out⟩
  · have hv : ((v : Int) != 0) = true := by assumption
    have hv1 : v ≠ 0 := by
      intro e
      rw [e] at hv
      exact absurd hv (by decide)
    have hring : Wre ls0 v v := HV0.out.resolve_left hv1
    have HWT := Lib.hid (waits_fin H2.out HZS.out)
    have HRG := Lib.hid hring
    with_reducible refine HWT.out.mono ?_
    rintro e w3 ⟨A3, c3, pl, M, rfl, hM, hM2, hrs, _, ht3, _⟩
    have HT3 := Lib.hid ht3
    have h2M : 2 ≤ M := by rw [← hM]; exact ring_two HFP.out.1 hrs HRG.out
    have hgt : decide ((M : Int) > 1) = true := decide_eq_true (by omega)
    have hgt2 : decide ((1 : Int) < (M : Int)) = true := decide_eq_true (by omega)
    clear ht3 hrs hM hring
    go_wp2_with (go_at_call 9; with_reducible refine (HAT.out _ _ HT3.out).mono ?_; rintro e w4 ⟨rfl, hb4⟩; have HB4 := Lib.hid hb4; clear hb4)
    go_ret
    exact ⟨by simp, by have := HT3.out.bel; rw [HZ.out] at this; exact below_trans this HB4.out⟩
  · have hv : ((v : Int) != 0) = false := by assumption
    have hr0 : r = false := by assumption
    have hv1 : v = 0 := by
      have : ((v : Int) == 0) = true := by simpa [bne] using hv
      have := beq_iff_eq.1 this
      omega
    have HNR := Lib.hid (no_ring HFP.out.1 HVM.out hv1)
    rw [hv]
    have HFW := Lib.hid (hr hr0)
    clear hr hv hv1
    subst hr0
    go_loopw [4] (fun i wr => ∃ (k : Nat) (ls : List LK), k ≤ 120 ∧ i = .int .i64 (k : Int) ∧ TL w wr z z ls ∧ Fine ls ∧ Last ls ∧ (∀ a, ¬ Wre ls a a) ∧ ls.length + k ≤ 120) (fun i _ => 121 - (intOf i).toNat)
    case atStart => exact ⟨0, ls0, by omega, rfl, H2.out, HFP.out, HLP.out, HNR.out, by have := HPN.out; have := HFW.out.1; omega⟩
    case round =>
      obtain ⟨k, ls, hk, rfl, htl, hfi, hla, hno, hcn⟩ := hrel
      have HTL := Lib.hid htl
      have HFI := Lib.hid hfi
      have HLA := Lib.hid hla
      have HNO := Lib.hid hno
      have hin : ((k : Int) ≤ 120) := by omega
      have e1 : IntKind.i64.wrap ((k : Int) + 1) = ((k + 1 : Nat) : Int) := by rw [IntWalk.i64_in _ (by omega)]; omega
      obtain ⟨N, hN⟩ : ∃ N, ls.length = N := ⟨_, rfl⟩
      have HNN := Lib.hid hN
      have HALL := Lib.hid (all_fin htl HZS.out hN)
      have HWT := Lib.hid (fun W (h : TL w W z z ls) => waits_fin h HZS.out)
      have hcn2 : N + k ≤ 120 := by omega
      clear htl hfi hla hno hN hcn
      by_cases hN0 : N = 0
      · have hl0 : ls = [] := List.length_eq_zero_iff.1 (by rw [HNN.out]; exact hN0)
        have HW0 := Lib.hid (fun W (h : TL w W z z ls) => waits_zero (hl0 ▸ h) HZS.out)
        subst hN0
        clear hl0
        go_wp2_with (first
          | (go_at_call 12; with_reducible refine HALL.out.mono ?_; rintro e w3 ⟨A3, c3, rfl, _, ht3⟩; have HT3 := Lib.hid ht3; clear ht3)
          | (go_at_call 13; with_reducible refine (HW0.out _ HT3.out).mono ?_; rintro e w4 ⟨A4, c4, rfl, ht4⟩; have HT4 := Lib.hid ht4; clear ht4)
          | (go_at_call 9; with_reducible refine (HAT.out _ _ HT4.out).mono ?_; rintro e w5 ⟨rfl, hb5⟩; have HB5 := Lib.hid hb5; clear hb5))
        go_ret
        exact ⟨by simp, by have := HT4.out.bel; rw [HZ.out] at this; exact below_trans this HB5.out⟩
      · have hNe : ((N : Int) == 0) = false := beq_eq_false_iff_ne.2 (by omega)
        go_wp2_with (go_at_call 12; with_reducible refine HALL.out.mono ?_; rintro e w3 ⟨A3, c3, rfl, ho3, ht3⟩; have HT3 := Lib.hid ht3; have HO3 := Lib.hid ho3; clear ho3 ht3)
        go_loopw [6, 7] (fun s i wi => ∃ (j nx : Nat), j ≤ N ∧ i = .int .i64 (j : Int) ∧ s = .int .u32 (nx : Int) ∧ Nx ls j nx ∧ Below w3.heap.size w3 wi) (fun _ i _ => N - (intOf i).toNat)
        case atStart => exact ⟨0, 0, by omega, rfl, rfl, Or.inl ⟨rfl, by simp⟩, Below.refl _ _⟩
        case round =>
          obtain ⟨j, nx, hj, rfl, rfl, hnx, hbj⟩ := hrel
          have HBJ := Lib.hid hbj
          have HNX := Lib.hid hnx
          clear hnx
          by_cases hlt : j < N
          · have hl : ls[j]? = some (ls[j]'(by have := HNN.out; omega)) := List.getElem?_eq_getElem _
            generalize ls[j]'(by have := HNN.out; omega) = q at hl
            have HRW := Lib.hid (own_row (HO3.out.up hbj))
            have HWA := Lib.hid (waiting_any wr A3 N c3 ls HNN.out HRW.out (by omega) q.t)
            obtain ⟨b, rfl, hcs⟩ := HRW.out j q hl
            have HCS := Lib.hid hcs
            obtain ⟨z0, z1, z2, z3, z4, z5, z6⟩ := hcs
            have hin3 : ((j : Int) < (N : Int)) := by omega
            have e3 : IntKind.i64.wrap ((j : Int) + 1) = ((j + 1 : Nat) : Int) := by rw [IntWalk.i64_in _ (by omega)]; omega
            have HL2 := Lib.hid hl
            clear hbj hl
            cases hw : ls.any (waitsP q.t) with
            | true =>
              rw [hw] at HWA
              have HN2 := Lib.hid (HNX.out.next HL2.out hw)
              clear hw
              go_wp2_with (go_at_call 24; with_reducible refine HWA.out.mono ?_; rintro e w4 ⟨rfl, hb4⟩; have HB4 := Lib.hid hb4; clear hb4)
              go_roundw
              case rel => exact ⟨j + 1, nx, by omega, by go_num, rfl, HN2.out, below_trans HBJ.out HB4.out⟩
              case measure => simp [intOf]; omega
            | false =>
              rw [hw] at HWA
              have HN2 := Lib.hid (show Nx ls (j + 1) q.t from Or.inr ⟨q, List.mem_of_getElem? HL2.out, rfl, hw⟩)
              clear hw
              go_wp2_with (go_at_call 24; with_reducible refine HWA.out.mono ?_; rintro e w4 ⟨rfl, hb4⟩; have HB4 := Lib.hid hb4; have y0 := cs_t (HCS.out.up hb4); clear hb4)
              go_roundw
              case rel => exact ⟨j + 1, q.t, by omega, by go_num, rfl, HN2.out, below_trans HBJ.out HB4.out⟩
              case measure => simp [intOf]; omega
          · obtain rfl : j = N := by omega
            have hin3 : ¬ ((j : Int) < (j : Int)) := by omega
            have HND := Lib.hid (Nx.done (by have := HNX.out; rwa [← HNN.out] at this) HFI.out (fun e => hN0 (by rw [← HNN.out, e]; rfl)) HNO.out)
            have hnz : ((nx : Int) == 0) = false := beq_eq_false_iff_ne.2 (by have := HND.out.1; omega)
            have HTJ := Lib.hid (HT3.out.up HZS.out hbj)
            obtain ⟨v2, hv2, hvm2, hvc2⟩ := victim_fin HTJ.out HZS.out HFI.out HLA.out
            obtain rfl : v2 = 0 := hv2.resolve_right (HNO.out _)
            have HVC2 := Lib.hid (hvc2 _ HTJ.out)
            rw [show ((0 : Nat) : Int) = 0 from rfl] at HVC2
            have HRL := Lib.hid (fun W (h : TL w W z z ls) => h.release HZS.out nx)
            clear hbj hv2 hvm2 hvc2
            go_wp2_with (first
              | (go_at_call 17; with_reducible refine HVC2.out.mono ?_; rintro e w5 ⟨rfl, ht5, _⟩; have HT5 := Lib.hid ht5; clear ht5)
              | (go_at_call 19; with_reducible refine (HRL.out _ HT5.out).mono ?_; rintro e w6 ⟨⟨vg, hev, _⟩, ht6, _⟩; subst hev; have HT6 := Lib.hid ht6; clear ht6))
            go_roundw
            case rel => exact ⟨k + 1, _, by omega, by go_num, HT6.out, fine_release HFI.out nx, last_release HLA.out nx, fun a ha => HNO.out a (wre_release HFI.out.1 ha), by obtain ⟨_, y, hy, hyt⟩ := HND.out; have := release_less hy hyt; have := HNN.out; omega⟩
            case measure => simp [intOf]; omega
end Go.Proofs.YtlblgfpafdfilaaDoor.lockEnds
