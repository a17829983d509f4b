/-
  THE WALK OF DiskNobody.
-/
import Derived.Test.YtjblcligkgjbjaaWalkL
import Derived.Test.YtjblcligkgjbjaaWalkK
namespace Go.Proofs.Ytjblcligkgjbjaa.diskNobody
open Go.RowKit Go.Sort Go.Maps

set_option maxRecDepth 100000 in
theorem fr_below {B : Nat} {w w' : World} (h : Fr w w' No) (hB : B ≤ w.heap.size) : Below B w w' := h.below (fun _ hb => hb.elim) hB
set_option maxRecDepth 100000 in
theorem walked (A : Option Addr) (n c : Nat) (l : List St) (w : World) (h : Sts w w.heap.size A n l) (hn : n ≤ 140737488351232) :
    Calls Try.prog 8 #[.slice A n c] w fun e w' => e = .returned (.bool true) ∧ Below w.heap.size w w' := by
  have HL := Lib.hid (long_any A n c l w h hn)
  have HH := Lib.hid h
  clear h
  go_enter Try.func8, Try.ntmps8
  go_wp2_with fail
  refine HL.out.mono ?_
  rintro e w' ⟨b, rfl, rfl, hfew⟩
  cases b with
  | true =>
    go_wp2_with fail
    refine (alive_any w).mono ?_
    rintro e w' ⟨rfl, hb⟩
    have HB := Lib.hid hb
    clear hb
    go_wp2
    go_ret
    exact ⟨rfl, HB.out⟩
  | false =>
    have HF := Lib.hid (hfew rfl)
    clear hfew HL
    obtain ⟨gz, hgz⟩ : ∃ gz, gz = w.heap.size := ⟨_, rfl⟩
    obtain ⟨W, hW⟩ : ∃ W, W = (w.alloc (.cells #[.slice none 0 0, .slice none 0 0, .map none, .int .i64 0, .bool false, .int .i64 0, .int .i64 0, .int .i64 0] 65)).alloc (.cells #[.pointer none, .pointer (some ⟨w.heap.size, 0, none⟩)] 23) := ⟨_, rfl⟩
    have hz : Blk W w.heap.size 65 #[.slice none 0 0, .slice none 0 0, .map none, .int .i64 0, .bool false, .int .i64 0, .int .i64 0, .int .i64 0] := by rw [hW]; exact (Blk.new w 65 _).alloc _
    have hb : Blk W (w.heap.size + 1) 23 #[.pointer none, .pointer (some ⟨w.heap.size, 0, none⟩)] := by
      rw [hW]
      have := Blk.new (w.alloc (.cells #[.slice none 0 0, .slice none 0 0, .map none, .int .i64 0, .bool false, .int .i64 0, .int .i64 0, .int .i64 0] 65)) 23 #[.pointer none, .pointer (some ⟨w.heap.size, 0, none⟩)]
      simpa using this
    have HW := Lib.hid (show Below w.heap.size w W by rw [hW]; exact ((Below.refl _ _).alloc (Nat.le_refl _) _).alloc (by simp) _)
    have HZ := Lib.hid hz
    have HBB := Lib.hid hb
    clear hz hb hgz
    replace hW := hW.symm
    go_wp2_with fail
    clear hW
    go_loopw [5] (fun u wr => ∃ k : Nat, u = .int .i64 (k : Int) ∧ k ≤ 2 ∧ Fr W wr No) (fun u _ => 2 - (intOf u).toNat)
    case atStart => exact ⟨0, rfl, by omega, Fr.refl _ _⟩
    case round =>
      obtain ⟨k, rfl, hk, hf⟩ := hrel
      by_cases hk2 : k < 2
      · -- which of the two
        obtain ⟨p, hcell, hnob⟩ : ∃ p, wr.cell? ⟨w.heap.size + 1, k, none⟩ = some (ptr p) ∧ ∀ w', Fr W w' No → Nob w' p := by
          have hb := HBB.out.keep hf fun hx => hx
          rw [hb.cell]
          match k, hk2 with
          | 0, _ => exact ⟨none, rfl, fun _ _ => trivial⟩
          | 1, _ => exact ⟨some w.heap.size, rfl, fun w' hw' => HZ.out.keep hw' fun hx => hx⟩
        have HNb := Lib.hid hnob
        have hki : ((k : Int) < 2) := by omega
        have hWn : IntKind.i64.wrap ((k : Int) + 1) = ((k + 1 : Nat) : Int) := by rw [IntWalk.i64_in _ (by omega)]; omega
        obtain ⟨dp, hdp⟩ : ∃ dp, dp = ptr p := ⟨_, rfl⟩
        rw [← hdp] at hcell
        have HP := Lib.hid hdp
        have HFk := Lib.hid hf
        clear hnob hdp hf
        go_wp2_with fail
        go_loopw [7] (fun u wr => ∃ i : Nat, u = .int .i64 (i : Int) ∧ i ≤ n ∧ Fr W wr No) (fun u _ => n - (intOf u).toNat)
        case atStart => exact ⟨0, rfl, by omega, HFk.out⟩
        case round =>
          obtain ⟨i, rfl, hi, hf⟩ := hrel
          by_cases hlt : i < n
          · obtain ⟨s, b, o, _, rfl, hbo, _, c0, c1, c2, c3, c4⟩ := (HH.out.below ((HW.out.trans (fr_below hf HW.out.size)))).at_ hlt
            obtain ⟨wx, hwx⟩ : ∃ wx, wx = wr.alloc (.cells #[.int .i64 s.k, .int .i64 s.a, .slice s.A s.m s.c, .int .i64 s.n, .slice s.K s.q s.r] 36) := ⟨_, rfl⟩
            have hfx : Fr W wx No := by rw [hwx]; exact hf.alloc _
            have hnb := HNb.out wx hfx
            have hxb : Blk wx wr.heap.size 36 #[.int .i64 s.k, .int .i64 s.a, .slice s.A s.m s.c, .int .i64 s.n, .slice s.K s.q s.r] := by rw [hwx]; exact Blk.new wr 36 _
            have x1 := hxb.cell 1
            have x2 := hxb.cell 2
            have x3 := hxb.cell 3
            have x4 := hxb.cell 4
            simp only [List.getElem?_toArray, List.getElem?_cons_zero, List.getElem?_cons_succ] at x1 x2 x3 x4
            have HR : Hid (Calls Try.prog 26 #[dp, .int .i64 s.a] wx fun e w' => e = .returned (.tuple #[.slice none 0 0, .int .i64 2]) ∧ wx = w') := by rw [HP.out]; exact read_nob wx p hnb s.a
            have HWr : Hid (Calls Try.prog 23 #[dp, .int .i64 s.a, .slice s.A s.m s.c] wx fun e w' => e = .returned (.int .i64 2) ∧ wx = w') := by rw [HP.out]; exact write_nob wx p hnb s.a s.A s.m s.c
            have HSy : Hid (Calls Try.prog 24 #[dp] wx fun e w' => e = .returned (.int .i64 8) ∧ wx = w') := by rw [HP.out]; exact sync_nob wx p hnb
            have HT : Hid (Calls Try.prog 27 #[dp, .int .i64 s.n] wx fun e w' => e = .returned (.tuple #[]) ∧ wx = w') := by rw [HP.out]; exact trip_nob wx p hnb s.n
            have HCu : Hid (Calls Try.prog 25 #[dp, .slice s.K s.q s.r] wx fun e w' => e = .returned (.tuple #[]) ∧ wx = w') := by rw [HP.out]; exact cut_nob wx p hnb s.K s.q s.r
            have HDk : Hid (Calls Try.prog 16 #[dp] wx fun e w' => e = .returned (.bool false) ∧ wx = w') := by rw [HP.out]; exact dark_nob wx p hnb
            have HFx := Lib.hid hfx
            have hin : ((i : Int) < (n : Int)) := by omega
            have hWi : IntKind.i64.wrap ((i : Int) + 1) = ((i + 1 : Nat) : Int) := by rw [IntWalk.i64_in _ (by omega)]; omega
            clear hf hfx hnb hxb
            replace hwx := hwx.symm
            go_wp2_with fail
            refine HR.out.mono ?_
            rintro e w' ⟨rfl, rfl⟩
            go_wp2_with fail
            refine HWr.out.mono ?_
            rintro e w' ⟨rfl, rfl⟩
            go_wp2_with fail
            refine HSy.out.mono ?_
            rintro e w' ⟨rfl, rfl⟩
            go_wp2_with fail
            refine HT.out.mono ?_
            rintro e w' ⟨rfl, rfl⟩
            go_wp2_with fail
            refine HCu.out.mono ?_
            rintro e w' ⟨rfl, rfl⟩
            go_wp2_with fail
            refine HDk.out.mono ?_
            rintro e w' ⟨rfl, rfl⟩
            go_wp2_with fail
            go_roundw
            case rel => exact ⟨i + 1, by go_num, by omega, HFx.out⟩
            case measure => simp [intOf]; omega
          · obtain rfl : i = n := by omega
            have hnb := HNb.out wr hf
            have HS : Hid (Calls Try.prog 11 #[dp] wr fun e w' => e = .returned (.int .i64 0) ∧ wr = w') := by rw [HP.out]; exact sectors_nob wr p hnb
            have HPe : Hid (Calls Try.prog 15 #[dp] wr fun e w' => e = .returned (.int .i64 0) ∧ wr = w') := by rw [HP.out]; exact pending_nob wr p hnb
            have HIm : Hid (Calls Try.prog 18 #[dp] wr fun e w' => ∃ v, e = .returned v ∧ New wr w' v [] ∧ Fr wr w' No) := by rw [HP.out]; exact image_nob wr p hnb
            have HCo : Hid (∀ w', Fr W w' No → Calls Try.prog 17 #[dp] w' fun e w'' => e = .returned (.agg #[.int .i64 0, .int .i64 0, .int .i64 0]) ∧ Fr w' w'' No) := fun w' hw' => by rw [HP.out]; exact counts_nob w' p (HNb.out w' hw')
            have HFi := Lib.hid hf
            clear hf hnb
            go_wp2_with fail
            refine HS.out.mono ?_
            rintro e w' ⟨rfl, rfl⟩
            go_wp2_with fail
            refine HPe.out.mono ?_
            rintro e w' ⟨rfl, rfl⟩
            go_wp2_with fail
            refine HIm.out.mono ?_
            rintro e w2 ⟨v, rfl, hnew, hf2⟩
            obtain ⟨A2, c2, rfl, _⟩ := Ow.reads hnew
            have HF2 := Lib.hid (HFi.out.same hf2)
            clear hnew hf2
            simp only [List.length_nil]
            go_wp2_with fail
            refine (HCo.out w2 HF2.out).mono ?_
            rintro e w3 ⟨rfl, hf3⟩
            have HF3 := Lib.hid (HF2.out.same hf3)
            clear hf3
            go_wp2_with fail
            go_roundw
            case rel => exact ⟨k + 1, by go_num, by omega, HF3.out⟩
            case measure => simp [intOf]; omega
      · obtain rfl : k = 2 := by omega
        have HFk := Lib.hid hf
        clear hf
        go_wp2_with fail
        refine (alive_any wr).mono ?_
        rintro e w' ⟨rfl, hb⟩
        have HB := Lib.hid (HW.out.trans ((fr_below HFk.out HW.out.size).trans (hb.mono (Nat.le_trans HW.out.size HFk.out.size))))
        clear hb
        go_wp2
        go_ret
        exact ⟨rfl, HB.out⟩
end Go.Proofs.Ytjblcligkgjbjaa.diskNobody
