/-
  THE WALK OF DiskLoads.
-/
import Derived.Test.YtjblcligkgjbjaaWalkK
import Derived.Test.YtjblcligkgjbjaaWalkM
import Derived.Test.YtjblcligkgjbjaaWalkN
import Derived.Test.YtjblcligkgjbjaaOpen
import Derived.Deep.Cut
namespace Go.Proofs.Ytjblcligkgjbjaa.diskLoads
open Go.RowKit Go.Sort Go.Maps

/-- what holds all along the last question -/
def LS (w0 : World) (S T : Nat → Prop) (g : Nat) (d : DS) (A : Option Addr) (n : Nat) (img : List Nat) (w : World) : Prop := DAt w S g d ∧ RB w T A n img ∧ Below w0.heap.size w0 w
set_option maxRecDepth 100000 in
theorem LS.fr {w0 w w' : World} {S T : Nat → Prop} {g : Nat} {d : DS} {A : Option Addr} {n : Nat} {img : List Nat} (h : LS w0 S T g d A n img w) (hf : Fr w w' No) : LS w0 S T g d A n img w' :=
  ⟨h.1.keep hf fun _ _ hn => hn, h.2.1.keep hf fun _ _ hn => hn, h.2.2.trans (hf.below (fun _ hb => hb.elim) h.2.2.size)⟩
attribute [local go_sem high] run_eqs
set_option maxHeartbeats 4000000 in
set_option maxRecDepth 100000 in
theorem walked (A : Option Addr) (n c : Nat) (img : List Nat) (w : World) (h : In w A n c img) :
    Calls Try.prog 4 #[.slice A n c] w fun e w' => e = .returned (.bool true) ∧ Below w.heap.size w w' := by
  obtain ⟨hr, hnc, hn⟩ := h
  have hln := hr.len
  have hlt := hr.lt
  have HC := Lib.hid (copy_any w _ A n c img hr hn)
  have HR := Lib.hid hr
  clear hr
  go_enter Try.func4, Try.ntmps4
  go_wp2_with fail
  refine HC.out.mono ?_
  rintro e w1 ⟨v, rfl, hnew, hf1⟩
  have hs1 := hf1.size
  obtain ⟨A1, c1, rfl, hc1, _, hr1⟩ := Ow.reads hnew
  obtain ⟨A1', c1', e1, hwb⟩ := WB.of_ow hnew
  obtain ⟨rfl, rfl⟩ : A1 = A1' ∧ c1 = c1' := by injection e1 with a b c; exact ⟨a, c⟩
  clear e1 hnew HC
  rw [hln] at hr1 hwb hc1 ⊢
  -- own's blocks
  obtain ⟨OS, hOS⟩ : ∃ OS : Nat → Prop, OS = fun b => w.heap.size ≤ b ∧ b < w1.heap.size := ⟨_, rfl⟩
  have hwb1 : WB w1 OS A1 n := by
    obtain ⟨l, h1, h2⟩ := hwb
    exact ⟨l, by rw [hOS]; exact h1.mono fun b hb hS => ⟨hS, hb⟩, h2⟩
  have hR1 := Lib.hid hr1
  have HW1 := Lib.hid hwb1
  have HF1 := Lib.hid hf1
  have HO := Lib.hid hOS
  clear hwb hwb1 hr1 hf1 hOS
  obtain ⟨ok, hok⟩ : ∃ ok, ok = decide (n % 512 = 0 ∧ 0 < n ∧ n ≤ 4194304) := ⟨_, rfl⟩
  by_cases hgood : n % 512 = 0 ∧ 0 < n ∧ n ≤ 4194304
  · clear hok
    obtain ⟨k, hk⟩ : ∃ k, n = k * 512 := ⟨n / 512, by omega⟩
    have HL := Lib.hid (load_some w1 _ A1 n c1 k img hR1.out hc1 hk (by omega) (by omega))
    have hm0 : (n : Int) % 512 = 0 := by omega
    have hmt : (n : Int).tmod 512 = 0 := by rw [Int.tmod_eq_emod_of_nonneg (by omega)]; omega
    have hn0 : ((n : Int) == 0) = false := beq_false_of_ne (by omega)
    have hng : decide ((n : Int) > 4194304) = false := by simp; omega
    have hq : (n : Int) / 512 = (k : Int) := by omega
    have hqt : (n : Int).tdiv 512 = (k : Int) := by rw [Int.tdiv_eq_ediv_of_nonneg (by omega)]; omega
    have hqw : IntKind.i64.wrap (k : Int) = (k : Int) := IntWalk.i64_in _ (by omega)
    have hlen : img.length = k * 512 := by rw [hln, hk]
    have HLEN := Lib.hid hlen
    have HX := Lib.hid hlt
    have HKK := Lib.hid hk
    have HLN := Lib.hid hln
    have HG := Lib.hid hgood
    clear hgood hlen hlt hk hln
    go_wp2_with fail
    refine HL.out.mono ?_
    rintro e w2 ⟨g, rfl, hd, hb2⟩
    obtain ⟨SD, hSD, hd2⟩ : ∃ SD : Nat → Prop, (∀ b, SD b → w1.heap.size ≤ b) ∧ DAt w2 SD g (DS.load (ldN img k k)) := ⟨_, fun _ h => h, hd⟩
    have HD := Lib.hid hd2
    have hF2 : Fr w1 w2 No := Fr.of_below hb2 No
    have HB := Lib.hid (show Below w.heap.size w w2 from (HF1.out.below (fun _ hb => hb.elim) (Nat.le_refl _)).trans (hF2.below (fun _ hb => hb.elim) hs1))
    have HW2 := Lib.hid (HW1.out.keep hF2 fun _ _ hn => hn)
    have HSD := Lib.hid hSD
    have hni : ¬ OS g := by rw [HO.out]; intro hx; have h1 := hSD g (by obtain ⟨_, _, _, _, hh⟩ := hd2; exact hh.sg); have h2 := hx.2; omega
    clear hd hd2 hb2 hF2 HL hSD hni
    simp only [ptr, Option.map]
    go_wp2_with fail
    go_loopw [6] (fun u wr => ∃ i : Nat, u = .int .i64 (i : Int) ∧ i ≤ n ∧ WB wr OS A1 n ∧ Fr w2 wr OS) (fun u _ => n - (intOf u).toNat)
    case atStart => exact ⟨0, rfl, by omega, HW2.out, Fr.refl _ _⟩
    case round =>
      obtain ⟨i, rfl, hi, hw, hf⟩ := hrel
      by_cases hlt : i < n
      · obtain ⟨ad, x, rfl, hx, hcell, hfz, hOa, hset⟩ := hw.at_ hlt
        obtain ⟨y, hy⟩ : ∃ y, y = (x + 1) % 256 := ⟨_, rfl⟩
        have hy2 : y < 256 := by omega
        have hw8 : IntKind.u8.wrap ((x : Int) + 1) = (y : Int) := by rw [IntKind.wrap_u8]; omega
        have HS := Lib.hid (hset y hy2)
        have HFi := Lib.hid (show Fr w2 (wr.setCell (ad.add i) (.int .u8 (y : Int))) OS from hf.setCell (Or.inl (by rw [block_of_add]; exact hOa)) _)
        have hin : ((i : Int) < (n : Int)) := by omega
        have hWi : IntKind.i64.wrap ((i : Int) + 1) = ((i + 1 : Nat) : Int) := by rw [IntWalk.i64_in _ (by omega)]; omega
        clear hw hf hset hy hx
        go_wp2_with fail
        go_roundw
        case rel => exact ⟨i + 1, by go_num, by omega, HS.out, HFi.out⟩
        case measure => simp [intOf]; omega
      · obtain rfl : i = n := by omega
        have hdn : DAt wr SD g (DS.load (ldN img k k)) := HD.out.keep hf fun b h1 h2 => by
          rw [HO.out] at h2; have := HSD.out b h1; have := h2.2; omega
        have hBn : Below w.heap.size w wr := HB.out.trans (hf.below (fun b hb => by rw [HO.out] at hb; exact hb.1) HB.out.size)
        have HI : LS w SD (fun b => b < w.heap.size) g (DS.load (ldN img k k)) A i img wr.drew := ⟨hdn.drew, (HR.out.below hBn fun _ h => h).drew, hBn.trans ((Fr.refl wr No).drew.below (fun _ hb => hb.elim) hBn.size)⟩
        have hse : seq (bs img) (bs img) = true := seq_refl _
        have him : (DS.load (ldN img k k)).image = img := ldN_flat HLEN.out
        have hil : img.length = i := HLN.out
        have HIM := Lib.hid him
        have HIL := Lib.hid hil
        have hki : IntKind.i64.wrap (k : Int) = (k : Int) := hqw
        clear hw hf hdn hBn him hil
        go_upto_region 9 with fail
        refine wp_region_held_drew (S := LS w SD (fun b => b < w.heap.size) g (DS.load (ldN img k k)) A i img) (by kernel_rfl) HI (fun hS => ?_)
        clear HI
        refine wpAnyH_take (i := 0) (v := ?_) rfl (by kernel_rfl) (by kernel_rfl) (by kernel_rfl) (fun _ _ _ h => h) (Or.inl ⟨by rfl, ?_⟩) hS ?_
        rotate_left
        · (intro wq hSw; go_simp; try with_reducible rfl)
        refine wpAnyH_take (i := 1) (v := ?_) rfl (by kernel_rfl) (by kernel_rfl) (by kernel_rfl) (fun _ _ _ h => h) (Or.inl ⟨by rfl, ?_⟩) hS ?_
        rotate_left
        · (intro wq hSw; go_simp; try with_reducible rfl)
        simp only [List.getElem_toArray, List.getElem_cons_succ, List.getElem_cons_zero, Act.put, List.setIfInBounds_toArray, List.set_cons_succ, List.set_cons_zero]
        refine wpAnyH_take (i := 2) (v := ?_) rfl (by kernel_rfl) (by kernel_rfl) (by kernel_rfl) (fun _ _ _ h => h) (Or.inl ⟨by rfl, ?_⟩) hS ?_
        rotate_left
        · (intro wq hSw; go_simp; try with_reducible rfl)
        simp only [List.getElem_toArray, List.getElem_cons_succ, List.getElem_cons_zero, Act.put, List.setIfInBounds_toArray, List.set_cons_succ, List.set_cons_zero]
        refine wpAnyH_take (i := 3) (v := ?_) rfl (by kernel_rfl) (by kernel_rfl) (by kernel_rfl) (fun _ _ _ h => h) (Or.inl ⟨by rfl, ?_⟩) hS ?_
        rotate_left
        · (intro wq hSw; go_simp; try with_reducible rfl)
        simp only [List.getElem_toArray, List.getElem_cons_succ, List.getElem_cons_zero, Act.put, List.setIfInBounds_toArray, List.set_cons_succ, List.set_cons_zero]
        refine wpAnyH_take (i := 4) (v := ?_) rfl (by kernel_rfl) (by kernel_rfl) (by kernel_rfl) (fun _ _ _ h => h) (Or.inl ⟨by rfl, ?_⟩) hS ?_
        rotate_left
        · (intro wq hSw; go_simp; try with_reducible rfl)
        simp only [List.getElem_toArray, List.getElem_cons_succ, List.getElem_cons_zero, Act.put, List.setIfInBounds_toArray, List.set_cons_succ, List.set_cons_zero]
        refine wpAnyH_take (i := 5) (v := ?_) rfl (by kernel_rfl) (by kernel_rfl) (by kernel_rfl) (fun _ _ _ h => h) (Or.inl ⟨by rfl, ?_⟩) hS ?_
        rotate_left
        · (intro wq hSw; go_simp; try with_reducible rfl)
        simp only [List.getElem_toArray, List.getElem_cons_succ, List.getElem_cons_zero, Act.put, List.setIfInBounds_toArray, List.set_cons_succ, List.set_cons_zero]
        refine wpAnyH_take (i := 6) (v := ?_) rfl (by kernel_rfl) (by kernel_rfl) (by kernel_rfl) (fun _ _ _ h => h) (Or.inl ⟨by rfl, ?_⟩) hS ?_
        rotate_left
        · (intro wq hSw; go_simp; try with_reducible rfl)
        simp only [List.getElem_toArray, List.getElem_cons_succ, List.getElem_cons_zero, Act.put, List.setIfInBounds_toArray, List.set_cons_succ, List.set_cons_zero]
        refine wpAnyH_take (i := 7) (v := ?_) rfl (by kernel_rfl) (by kernel_rfl) (by kernel_rfl) (fun _ _ _ h => h) (Or.inl ⟨by rfl, ?_⟩) hS ?_
        rotate_left
        · (intro wq hSw; go_simp; try with_reducible rfl)
        simp only [List.getElem_toArray, List.getElem_cons_succ, List.getElem_cons_zero, Act.put, List.setIfInBounds_toArray, List.set_cons_succ, List.set_cons_zero]
        refine wpAnyH_take (i := 9) (v := ?_) rfl (by kernel_rfl) (by kernel_rfl) (by kernel_rfl) (fun _ _ _ h => h) (Or.inl ⟨by rfl, ?_⟩) hS ?_
        rotate_left
        · (intro wq hSw; go_simp; try with_reducible rfl)
        simp only [List.getElem_toArray, List.getElem_cons_succ, List.getElem_cons_zero, Act.put, List.setIfInBounds_toArray, List.set_cons_succ, List.set_cons_zero]
        refine wpAnyH_take (i := 10) (v := ?_) rfl (by kernel_rfl) (by kernel_rfl) (by kernel_rfl) (fun _ _ _ h => h) (Or.inl ⟨by rfl, ?_⟩) hS ?_
        rotate_left
        · (intro wq hSw; go_simp; try with_reducible rfl)
        simp only [List.getElem_toArray, List.getElem_cons_succ, List.getElem_cons_zero, Act.put, List.setIfInBounds_toArray, List.set_cons_succ, List.set_cons_zero]
        refine wpAnyH_take (i := 11) (v := ?_) rfl (by kernel_rfl) (by kernel_rfl) (by kernel_rfl) (fun _ _ _ h => h) (Or.inl ⟨by rfl, ?_⟩) hS ?_
        rotate_left
        · (intro wq hSw; go_simp; try with_reducible rfl)
        simp only [List.getElem_toArray, List.getElem_cons_succ, List.getElem_cons_zero, Act.put, List.setIfInBounds_toArray, List.set_cons_succ, List.set_cons_zero]
        refine wpAnyH_ready (rs := [8]) (by kernel_rfl) (by simp) ?_
        refine AllReadyH.cons rfl (fun K hK => ?_) AllReadyH.nil
        go_simp
        refine (show Calls Try.prog 11 #[.pointer (some ⟨g, 0, none⟩)] _ fun e w' => e = .returned (.int .i64 (k : Int)) ∧ _ = w' by have := sectors_any _ _ g _ hS.1; rwa [show (DS.load (ldN img k k)).kept.length = k from ldN_len img k k] at this).mono ?_
        rintro e x ⟨rfl, rfl⟩
        refine hK.out _ _ ?_ (fun hS => ?_)
        · exact hS
        clear hK K
        refine wpAnyH_take (i := 12) (v := ?_) rfl (by kernel_rfl) (by kernel_rfl) (by kernel_rfl) (fun _ _ _ h => h) (Or.inl ⟨by rfl, ?_⟩) hS ?_
        rotate_left
        · (intro wq hSw; go_simp; try with_reducible rfl)
        simp only [List.getElem_toArray, List.getElem_cons_succ, List.getElem_cons_zero, Act.put, List.setIfInBounds_toArray, List.set_cons_succ, List.set_cons_zero]
        refine wpAnyH_take (i := 13) (v := ?_) rfl (by kernel_rfl) (by kernel_rfl) (by kernel_rfl) (fun _ _ _ h => h) (Or.inl ⟨by rfl, ?_⟩) hS ?_
        rotate_left
        · (intro wq hSw; go_simp; try with_reducible rfl)
        simp only [List.getElem_toArray, List.getElem_cons_succ, List.getElem_cons_zero, Act.put, List.setIfInBounds_toArray, List.set_cons_succ, List.set_cons_zero]
        refine wpAnyH_take (i := 14) (v := ?_) rfl (by kernel_rfl) (by kernel_rfl) (by kernel_rfl) (fun _ _ _ h => h) (Or.inl ⟨by rfl, ?_⟩) hS ?_
        rotate_left
        · (intro wq hSw; go_simp; try with_reducible rfl)
        simp only [List.getElem_toArray, List.getElem_cons_succ, List.getElem_cons_zero, Act.put, List.setIfInBounds_toArray, List.set_cons_succ, List.set_cons_zero]
        refine wpAnyH_take (i := 15) (v := ?_) rfl (by kernel_rfl) (by kernel_rfl) (by kernel_rfl) (fun _ _ _ h => h) (Or.inl ⟨by rfl, ?_⟩) hS ?_
        rotate_left
        · (intro wq hSw; go_simp; try with_reducible rfl)
        simp only [List.getElem_toArray, List.getElem_cons_succ, List.getElem_cons_zero, Act.put, List.setIfInBounds_toArray, List.set_cons_succ, List.set_cons_zero]
        refine wpAnyH_take (i := 18) (v := ?_) rfl (by kernel_rfl) (by kernel_rfl) (by kernel_rfl) (fun _ _ _ h => h) (Or.inl ⟨by rfl, ?_⟩) hS ?_
        rotate_left
        · (intro wq hSw; go_simp; try with_reducible rfl)
        simp only [List.getElem_toArray, List.getElem_cons_succ, List.getElem_cons_zero, Act.put, List.setIfInBounds_toArray, List.set_cons_succ, List.set_cons_zero]
        refine wpAnyH_take (i := 19) (v := ?_) rfl (by kernel_rfl) (by kernel_rfl) (by kernel_rfl) (fun _ _ _ h => h) (Or.inl ⟨by rfl, ?_⟩) hS ?_
        rotate_left
        · (intro wq hSw; have hcv := run_conv _ _ i c _ _ hSw.2.1; clear hSw; go_simp; try with_reducible rfl)
        simp only [List.getElem_toArray, List.getElem_cons_succ, List.getElem_cons_zero, Act.put, List.setIfInBounds_toArray, List.set_cons_succ, List.set_cons_zero]
        refine wpAnyH_ready (rs := [16]) (by kernel_rfl) (by simp) ?_
        refine AllReadyH.cons rfl (fun K hK => ?_) AllReadyH.nil
        go_simp
        refine (show Calls Try.prog 18 #[.pointer (some ⟨g, 0, none⟩)] _ fun e w' => ∃ v, e = .returned v ∧ New _ w' v (DS.load (ldN img k k)).image ∧ Fr _ w' No from image_any _ _ g _ hS.1).mono ?_
        rintro e x ⟨v, rfl, hnw, hf⟩
        obtain ⟨Ax, cx, rfl, _, _, hrx⟩ := Ow.reads hnw
        rw [HIM.out, HIL.out] at hrx
        have hcvx := run_conv _ _ i cx _ _ hrx
        rw [HIM.out, HIL.out]
        refine hK.out _ _ ?_ (fun hS => ?_)
        · exact hS.fr hf
        clear hK K
        refine wpAnyH_ready (rs := [17]) (by kernel_rfl) (by simp) ?_
        refine AllReadyH.cons rfl (fun K hK => ?_) AllReadyH.nil
        go_simp
        refine hK.out _ _ hS (fun hS => ?_)
        clear hK K
        refine wpAnyH_take (i := 20) (v := ?_) rfl (by kernel_rfl) (by kernel_rfl) (by kernel_rfl) (fun _ _ _ h => h) (Or.inl ⟨by rfl, ?_⟩) hS ?_
        rotate_left
        · (intro wq hSw; go_simp; try with_reducible rfl)
        simp only [List.getElem_toArray, List.getElem_cons_succ, List.getElem_cons_zero, Act.put, List.setIfInBounds_toArray, List.set_cons_succ, List.set_cons_zero]
        refine wpAnyH_take (i := 21) (v := ?_) rfl (by kernel_rfl) (by kernel_rfl) (by kernel_rfl) (fun _ _ _ h => h) (Or.inl ⟨by rfl, ?_⟩) hS ?_
        rotate_left
        · (intro wq hSw; go_simp; try with_reducible rfl)
        simp only [List.getElem_toArray, List.getElem_cons_succ, List.getElem_cons_zero, Act.put, List.setIfInBounds_toArray, List.set_cons_succ, List.set_cons_zero]
        refine wpAnyH_take (i := 22) (v := ?_) rfl (by kernel_rfl) (by kernel_rfl) (by kernel_rfl) (fun _ _ _ h => h) (Or.inl ⟨by rfl, ?_⟩) hS ?_
        rotate_left
        · (intro wq hSw; go_simp; try with_reducible rfl)
        simp only [List.getElem_toArray, List.getElem_cons_succ, List.getElem_cons_zero, Act.put, List.setIfInBounds_toArray, List.set_cons_succ, List.set_cons_zero]
        refine wpAnyH_take (i := 23) (v := ?_) rfl (by kernel_rfl) (by kernel_rfl) (by kernel_rfl) (fun _ _ _ h => h) (Or.inl ⟨by rfl, ?_⟩) hS ?_
        rotate_left
        · (intro wq hSw; go_simp; try with_reducible rfl)
        simp only [List.getElem_toArray, List.getElem_cons_succ, List.getElem_cons_zero, Act.put, List.setIfInBounds_toArray, List.set_cons_succ, List.set_cons_zero]
        refine wpAnyH_ready (rs := [24]) (by kernel_rfl) (by simp) ?_
        refine AllReadyH.cons rfl (fun K hK => ?_) AllReadyH.nil
        go_simp
        refine (show Calls Try.prog 15 #[.pointer (some ⟨g, 0, none⟩)] _ fun e w' => e = .returned (.int .i64 0) ∧ _ = w' from pending_any _ _ g _ hS.1).mono ?_
        rintro e x ⟨rfl, rfl⟩
        refine hK.out _ _ ?_ (fun hS => ?_)
        · exact hS
        clear hK K
        refine wpAnyH_take (i := 25) (v := ?_) rfl (by kernel_rfl) (by kernel_rfl) (by kernel_rfl) (fun _ _ _ h => h) (Or.inl ⟨by rfl, ?_⟩) hS ?_
        rotate_left
        · (intro wq hSw; go_simp; try with_reducible rfl)
        simp only [List.getElem_toArray, List.getElem_cons_succ, List.getElem_cons_zero, Act.put, List.setIfInBounds_toArray, List.set_cons_succ, List.set_cons_zero]
        refine wpAnyH_take (i := 26) (v := ?_) rfl (by kernel_rfl) (by kernel_rfl) (by kernel_rfl) (fun _ _ _ h => h) (Or.inl ⟨by rfl, ?_⟩) hS ?_
        rotate_left
        · (intro wq hSw; go_simp; try with_reducible rfl)
        simp only [List.getElem_toArray, List.getElem_cons_succ, List.getElem_cons_zero, Act.put, List.setIfInBounds_toArray, List.set_cons_succ, List.set_cons_zero]
        refine wpAnyH_take (i := 27) (v := ?_) rfl (by kernel_rfl) (by kernel_rfl) (by kernel_rfl) (fun _ _ _ h => h) (Or.inl ⟨by rfl, ?_⟩) hS ?_
        rotate_left
        · (intro wq hSw; go_simp; try with_reducible rfl)
        simp only [List.getElem_toArray, List.getElem_cons_succ, List.getElem_cons_zero, Act.put, List.setIfInBounds_toArray, List.set_cons_succ, List.set_cons_zero]
        refine wpAnyH_take (i := 28) (v := ?_) rfl (by kernel_rfl) (by kernel_rfl) (by kernel_rfl) (fun _ _ _ h => h) (Or.inl ⟨by rfl, ?_⟩) hS ?_
        rotate_left
        · (intro wq hSw; go_simp; try with_reducible rfl)
        simp only [List.getElem_toArray, List.getElem_cons_succ, List.getElem_cons_zero, Act.put, List.setIfInBounds_toArray, List.set_cons_succ, List.set_cons_zero]
        refine wpAnyH_ready (rs := [29]) (by kernel_rfl) (by simp) ?_
        refine AllReadyH.cons rfl (fun K hK => ?_) AllReadyH.nil
        go_simp
        refine (show Calls Try.prog 16 #[.pointer (some ⟨g, 0, none⟩)] _ fun e w' => e = .returned (.bool false) ∧ _ = w' from dark_any _ _ g _ hS.1).mono ?_
        rintro e x ⟨rfl, rfl⟩
        refine hK.out _ _ ?_ (fun hS => ?_)
        · exact hS
        clear hK K
        refine wpAnyH_take (i := 30) (v := ?_) rfl (by kernel_rfl) (by kernel_rfl) (by kernel_rfl) (fun _ _ _ h => h) (Or.inl ⟨by rfl, ?_⟩) hS ?_
        rotate_left
        · (intro wq hSw; go_simp; try with_reducible rfl)
        simp only [List.getElem_toArray, List.getElem_cons_succ, List.getElem_cons_zero, Act.put, List.setIfInBounds_toArray, List.set_cons_succ, List.set_cons_zero]
        refine wpAnyH_take (i := 31) (v := ?_) rfl (by kernel_rfl) (by kernel_rfl) (by kernel_rfl) (fun _ _ _ h => h) (Or.inl ⟨by rfl, ?_⟩) hS ?_
        rotate_left
        · (intro wq hSw; go_simp; try with_reducible rfl)
        simp only [List.getElem_toArray, List.getElem_cons_succ, List.getElem_cons_zero, Act.put, List.setIfInBounds_toArray, List.set_cons_succ, List.set_cons_zero]
        refine wpAnyH_take (i := 32) (v := ?_) rfl (by kernel_rfl) (by kernel_rfl) (by kernel_rfl) (fun _ _ _ h => h) (Or.inl ⟨by rfl, ?_⟩) hS ?_
        rotate_left
        · (intro wq hSw; go_simp; try with_reducible rfl)
        simp only [List.getElem_toArray, List.getElem_cons_succ, List.getElem_cons_zero, Act.put, List.setIfInBounds_toArray, List.set_cons_succ, List.set_cons_zero]
        refine wpAnyH_take (i := 33) (v := ?_) rfl (by kernel_rfl) (by kernel_rfl) (by kernel_rfl) (fun _ _ _ h => h) (Or.inl ⟨by rfl, ?_⟩) hS ?_
        rotate_left
        · (intro wq hSw; go_simp; try with_reducible rfl)
        simp only [List.getElem_toArray, List.getElem_cons_succ, List.getElem_cons_zero, Act.put, List.setIfInBounds_toArray, List.set_cons_succ, List.set_cons_zero]
        refine wpAnyH_take (i := 35) (v := ?_) rfl (by kernel_rfl) (by kernel_rfl) (by kernel_rfl) (fun _ _ _ h => h) (Or.inl ⟨by rfl, ?_⟩) hS ?_
        rotate_left
        · (intro wq hSw; go_simp; try with_reducible rfl)
        simp only [List.getElem_toArray, List.getElem_cons_succ, List.getElem_cons_zero, Act.put, List.setIfInBounds_toArray, List.set_cons_succ, List.set_cons_zero]
        refine wpAnyH_ready (rs := [34]) (by kernel_rfl) (by simp) ?_
        refine AllReadyH.cons rfl (fun K hK => ?_) AllReadyH.nil
        go_simp
        refine (show Calls Try.prog 17 #[.pointer (some ⟨g, 0, none⟩)] _ fun e w' => e = .returned (.agg #[.int .i64 0, .int .i64 0, .int .i64 0]) ∧ Fr _ w' No from counts_any _ _ g _ hS.1).mono ?_
        rintro e x ⟨rfl, hf⟩
        refine hK.out _ _ ?_ (fun hS => ?_)
        · exact hS.fr hf
        clear hK K
        refine wpAnyH_take (i := 36) (v := ?_) rfl (by kernel_rfl) (by kernel_rfl) (by kernel_rfl) (fun _ _ _ h => h) (Or.inl ⟨by rfl, ?_⟩) hS ?_
        rotate_left
        · (intro wq hSw; go_simp; try with_reducible rfl)
        simp only [List.getElem_toArray, List.getElem_cons_succ, List.getElem_cons_zero, Act.put, List.setIfInBounds_toArray, List.set_cons_succ, List.set_cons_zero]
        refine wpAnyH_take (i := 37) (v := ?_) rfl (by kernel_rfl) (by kernel_rfl) (by kernel_rfl) (fun _ _ _ h => h) (Or.inl ⟨by rfl, ?_⟩) hS ?_
        rotate_left
        · (intro wq hSw; go_simp; try with_reducible rfl)
        simp only [List.getElem_toArray, List.getElem_cons_succ, List.getElem_cons_zero, Act.put, List.setIfInBounds_toArray, List.set_cons_succ, List.set_cons_zero]
        refine wpAnyH_take (i := 38) (v := ?_) rfl (by kernel_rfl) (by kernel_rfl) (by kernel_rfl) (fun _ _ _ h => h) (Or.inl ⟨by rfl, ?_⟩) hS ?_
        rotate_left
        · (intro wq hSw; go_simp; try with_reducible rfl)
        simp only [List.getElem_toArray, List.getElem_cons_succ, List.getElem_cons_zero, Act.put, List.setIfInBounds_toArray, List.set_cons_succ, List.set_cons_zero]
        refine wpAnyH_ready (rs := [39]) (by kernel_rfl) (by simp) ?_
        refine AllReadyH.cons rfl (fun K hK => ?_) AllReadyH.nil
        go_simp
        refine (alive_any _).mono ?_
        rintro e x ⟨rfl, hb⟩
        refine hK.out _ _ ?_ (fun hS => ?_)
        · exact hS.fr (Fr.of_below hb No)
        clear hK K
        refine wpAnyH_take (i := 40) (v := ?_) rfl (by kernel_rfl) (by kernel_rfl) (by kernel_rfl) (fun _ _ _ h => h) (Or.inl ⟨by rfl, ?_⟩) hS ?_
        rotate_left
        · (intro wq hSw; go_simp; try with_reducible rfl)
        simp only [List.getElem_toArray, List.getElem_cons_succ, List.getElem_cons_zero, Act.put, List.setIfInBounds_toArray, List.set_cons_succ, List.set_cons_zero]
        refine wpAnyH_take (i := 41) (v := ?_) rfl (by kernel_rfl) (by kernel_rfl) (by kernel_rfl) (fun _ _ _ h => h) (Or.inl ⟨by rfl, ?_⟩) hS ?_
        rotate_left
        · (intro wq hSw; go_simp; try with_reducible rfl)
        refine wpAnyH_done (by kernel_rfl) ?_ _
        go_wp2
        go_ret
        exact ⟨rfl, hS.2.2⟩
  · have hbad : n % 512 ≠ 0 ∨ n = 0 ∨ 4194304 < n := by omega
    have HL := Lib.hid (load_form w1 A1 n c1 hn hbad)
    clear hok hgood
    go_wp2_with fail
    refine HL.out.mono ?_
    rintro e w2 ⟨rfl, rfl⟩
    have HB := Lib.hid (show Below w.heap.size w w1 from HF1.out.below (fun _ hb => hb.elim) (Nat.le_refl _))
    simp only [ptr, Option.map]
    go_wp2_with fail
    go_loopw [6] (fun u wr => ∃ i : Nat, u = .int .i64 (i : Int) ∧ i ≤ n ∧ WB wr OS A1 n ∧ Fr w1 wr OS) (fun u _ => n - (intOf u).toNat)
    case atStart => exact ⟨0, rfl, by omega, HW1.out, Fr.refl _ _⟩
    case round =>
      obtain ⟨i, rfl, hi, hw, hf⟩ := hrel
      by_cases hlt : i < n
      · obtain ⟨ad, x, rfl, hx, hcell, hfz, hOa, hset⟩ := hw.at_ hlt
        obtain ⟨y, hy⟩ : ∃ y, y = (x + 1) % 256 := ⟨_, rfl⟩
        have hy2 : y < 256 := by omega
        have hw8 : IntKind.u8.wrap ((x : Int) + 1) = (y : Int) := by rw [IntKind.wrap_u8]; omega
        have HS := Lib.hid (hset y hy2)
        have HFi := Lib.hid (show Fr w1 (wr.setCell (ad.add i) (.int .u8 (y : Int))) OS from hf.setCell (Or.inl (by rw [block_of_add]; exact hOa)) _)
        have hin : ((i : Int) < (n : Int)) := by omega
        have hWi : IntKind.i64.wrap ((i : Int) + 1) = ((i + 1 : Nat) : Int) := by rw [IntWalk.i64_in _ (by omega)]; omega
        clear hw hf hset hy hx
        go_wp2_with fail
        go_roundw
        case rel => exact ⟨i + 1, by go_num, by omega, HS.out, HFi.out⟩
        case measure => simp [intOf]; omega
      · obtain rfl : i = n := by omega
        have hBn : Below w.heap.size w wr := HB.out.trans (hf.below (fun b hb => by rw [HO.out] at hb; exact hb.1) HB.out.size)
        have HBn := Lib.hid hBn
        clear hw hf hBn
        by_cases hm : i % 512 = 0
        · have hm0 : (i : Int) % 512 = 0 := by omega
          have hmt : (i : Int).tmod 512 = 0 := by rw [Int.tmod_eq_emod_of_nonneg (by omega)]; omega
          by_cases h00 : i = 0
          · subst h00
            go_wp2_with fail
            refine (alive_any wr).mono ?_
            rintro e w' ⟨rfl, hb⟩
            have HZ := Lib.hid (HBn.out.trans (hb.mono HBn.out.size))
            clear hb
            go_wp2
            go_ret
            exact ⟨rfl, HZ.out⟩
          · have hn0 : ((i : Int) == 0) = false := beq_false_of_ne (by omega)
            have hng : ((i : Int) > 4194304) := by omega
            go_wp2_with fail
            refine (alive_any wr).mono ?_
            rintro e w' ⟨rfl, hb⟩
            have HZ := Lib.hid (HBn.out.trans (hb.mono HBn.out.size))
            clear hb
            go_wp2
            go_ret
            exact ⟨rfl, HZ.out⟩
        · have hm1 : ((i : Int) % 512 != 0) = true := by rw [bne_iff_ne]; omega
          have hm2 : ((i : Int).tmod 512 != 0) = true := by rw [bne_iff_ne, Int.tmod_eq_emod_of_nonneg (by omega)]; omega
          have hm3 : ¬ ((i : Int) % 512 = 0) := by omega
          go_wp2_with fail
          refine (alive_any wr).mono ?_
          rintro e w' ⟨rfl, hb⟩
          have HZ := Lib.hid (HBn.out.trans (hb.mono HBn.out.size))
          clear hb
          go_wp2
          go_ret
          exact ⟨rfl, HZ.out⟩
end Go.Proofs.Ytjblcligkgjbjaa.diskLoads
