/-
  THE WALK OF CodeBack: what was written is read as it was, to the end.
-/
import Derived.Test.YtmnjmlnpmifiiaaWalkP
import Derived.Test.YtmnjmlnpmifiiaaCodeWritesWalk
namespace Go.Proofs.Ytmnjmlnpmifiiaa.codeBack
open Go.RowKit

theorem bytes_drop {its : List It} {k : Nat} {it : It} (h : its[k]? = some it) : codeWrites.bytes (its.drop k) = itB it ++ codeWrites.bytes (its.drop (k + 1)) := by
  have hl : k < its.length := by
    rcases Nat.lt_or_ge k its.length with h' | h'
    · exact h'
    · rw [List.getElem?_eq_none h'] at h; cases h
  rw [List.getElem?_eq_getElem hl] at h
  injection h with h
  rw [List.drop_eq_getElem_cons hl, h]
  simp [codeWrites.bytes]

set_option maxRecDepth 100000 in
set_option maxHeartbeats 4000000 in
theorem walked (A : Option Addr) (n c : Nat) (its : List It) (w : World) (h : Its w w.heap.size A n its) (hn : n ≤ 140737488351232) :
    Calls Try.prog 5 #[.slice A n c] w fun e w' => e = .returned (.bool true) ∧ Below w.heap.size w w' := by
  have HL := Lib.hid (long_any w _ A n c its h hn)
  have HI := Lib.hid h
  clear h
  cases hlong : longB its with
  | true =>
    rw [hlong] at HL
    clear hlong
    go_enter Try.func5, Try.ntmps5
    go_wp2_with (first | (go_at_call 9; refine HL.out.mono ?_; rintro e w' ⟨rfl, rfl⟩) | (go_at_call 10; refine (alive_any _).mono ?_; rintro e w1 ⟨rfl, hb⟩))
    go_ret
    exact ⟨rfl, hb⟩
  | false =>
    rw [hlong] at HL
    obtain ⟨hl1, hl2, hl3⟩ := longB_no hlong
    have HS := Lib.hid hl2
    have HT := Lib.hid hl3
    have hlen := HI.out.1
    have hn3 : n ≤ 300 := by omega
    have HLEN := Lib.hid hlen
    clear hlong hl2 hl3 hlen hl1
    go_enter Try.func5, Try.ntmps5
    go_wp2_with (first | (go_at_call 9; refine HL.out.mono ?_; rintro e w' ⟨rfl, rfl⟩) | (go_at_call 11; refine (newWriter_any _).mono ?_; rintro e w1 ⟨rfl, hw1, hb1⟩; have HW1 := Lib.hid hw1; have HB1 := Lib.hid hb1; clear hw1 hb1))
    go_loopw [4] (fun i wr => ∃ (k : Nat) (SW : Nat → Prop), k ≤ n ∧ i = .int .i64 (k : Int) ∧ Wr wr SW (some w.heap.size) true (codeWrites.bytes (its.take k)) ∧ (∀ b, SW b → w.heap.size ≤ b) ∧ Below w.heap.size w wr) (fun i _ => n - (intOf i).toNat)
    case atStart => exact ⟨0, fun b => w.heap.size ≤ b, by omega, rfl, HW1.out, fun _ hb => hb, HB1.out⟩
    case round =>
      obtain ⟨k, SW, hk, rfl, hw, h1, hb⟩ := hrel
      have hL : (codeWrites.bytes (its.take k)).length ≤ 3000 + 1048576 := by
        have := codeWrites.bytes_len (its.take k) (fun it hit => HI.out.2.1 it (List.mem_of_mem_take hit))
        have h4 := HT.out k
        have h5 : (its.take k).length ≤ 300 := by simp; omega
        omega
      have H1 := Lib.hid h1
      have HB := Lib.hid hb
      have hsz := hb.size
      clear h1 hb
      by_cases hlt : k < n
      · obtain ⟨bb, oo, it, rfl, hbb, hit, hok, c0, c1, c2, c3⟩ := (HI.out.below HB.out).at_ hlt
        have HIT := Lib.hid hit
        have hC := write_any wr SW (some w.heap.size) true (codeWrites.bytes (its.take k)) it hok (HS.out it (List.mem_of_getElem? hit)) (by omega) hw
        have HC := Lib.hid hC
        unfold It.agg at HC
        clear hit hok hw hC
        go_wp2_with fail
        refine HC.out.mono ?_
        rintro e w1 ⟨A1, c1, rfl, _, hw1, hf1⟩
        have HW2 := Lib.hid hw1
        have HB2 := Lib.hid (HB.out.trans (hf1.below (B := w.heap.size) H1.out hsz))
        clear hw1 hf1
        go_wp2
        go_roundw
        case rel => exact ⟨k + 1, Up SW wr, by omega, by go_num, by rw [codeWrites.take_bytes HIT.out]; exact HW2.out, fun b hb => hb.elim (H1.out b) fun hb => by omega, HB2.out⟩
        case measure => simp [intOf]; omega
      · obtain rfl : k = n := by omega
        have hfull : its.take k = its := List.take_of_length_le (by rw [HLEN.out]; omega)
        rw [hfull] at hL hw
        have hC := wbytes_any wr SW _ true (codeWrites.bytes its) hw (by omega)
        have HC := Lib.hid hC
        clear hw hC hfull
        go_wp2_with fail
        refine HC.out.mono ?_
        rintro e w2 ⟨v2, rfl, ho2, hb2⟩
        obtain ⟨A2, cc2, rfl, _, _, hr2⟩ := ho2.reads
        have hs2 := hb2.size
        have HB2 := Lib.hid (HB.out.trans (hb2.mono hsz))
        have HN := Lib.hid (newReader_any w2 _ A2 _ cc2 (codeWrites.bytes its) hr2 (by omega))
        clear ho2 hb2 hr2
        go_wp2_with fail
        refine HN.out.mono ?_
        rintro e w3 ⟨g, rfl, hr3, hb3⟩
        have HR3 := Lib.hid hr3
        have HB3 := Lib.hid (HB2.out.trans (hb3.mono (by omega)))
        clear hr3 hb3
        go_wp2
        go_loopw [6] (fun i wr => ∃ (j : Nat) (SR : Nat → Prop), j ≤ k ∧ i = .int .i64 (j : Int) ∧ Rd wr SR (some g) true (codeWrites.bytes (its.drop j)) ∧ (∀ b, SR b → w.heap.size ≤ b) ∧ Below w.heap.size w wr) (fun i _ => k - (intOf i).toNat)
        case atStart => exact ⟨0, fun b => w2.heap.size ≤ b, by omega, rfl, HR3.out, fun b hb => by omega, HB3.out⟩
        case round =>
          obtain ⟨j, SR, hj, rfl, hr, h5, hb⟩ := hrel
          have H5 := Lib.hid h5
          have HBB := Lib.hid hb
          have hszz := hb.size
          clear h5 hb
          by_cases hjl : j < k
          · obtain ⟨bb, oo, it, rfl, hbb, hit, hok, c0, c1, c2, c3⟩ := (HI.out.below HBB.out).at_ hjl
            have HIT := Lib.hid hit
            rw [bytes_drop hit] at hr
            have hC := again_yes wr SR (some g) it (codeWrites.bytes (its.drop (j + 1))) hok (HS.out it (List.mem_of_getElem? hit)) hr
            have HCA := Lib.hid hC
            unfold It.agg at HCA
            clear hit hok hr hC
            go_wp2_with fail
            refine HCA.out.mono ?_
            rintro e w4 ⟨rfl, hr4, hf4⟩
            have HE := Lib.hid (err_any w4 _ _ true _ hr4)
            have HR4 := Lib.hid hr4
            have HB4 := Lib.hid (HBB.out.trans (hf4.below (B := w.heap.size) H5.out hszz))
            clear hr4 hf4
            simp only [errOf, if_true] at HE
            go_wp2_with (go_at_call 18; refine HE.out.mono ?_; rintro e w' ⟨rfl, rfl⟩)
            go_roundw
            case rel => exact ⟨j + 1, SR, by omega, by go_num, HR4.out, H5.out, HB4.out⟩
            case measure => simp [intOf]; omega
          · obtain rfl : j = k := by omega
            have hnil : its.drop j = [] := List.drop_of_length_le (by rw [HLEN.out]; omega)
            have hr' : Rd wr SR (some g) true [] := by rw [hnil] at hr; exact hr
            have HLF := Lib.hid (left_any wr SR _ true [] hr')
            have HEN := Lib.hid (end_any wr SR _ true [] hr')
            simp only [List.length_nil, List.isEmpty_nil, Bool.and_self, errOf, if_true] at HLF HEN
            clear hr hr' hnil
            go_wp2_with (go_at_call 17; refine HLF.out.mono ?_; rintro e w' ⟨rfl, rfl⟩)
            refine HEN.out.mono ?_
            rintro e w5 ⟨rfl, _, hf5⟩
            have HB5 := Lib.hid (HBB.out.trans (hf5.below (B := w.heap.size) H5.out hszz))
            clear hf5
            go_wp2_with (go_at_call 10; refine (alive_any _).mono ?_; rintro e w6 ⟨rfl, hb6⟩; have HB6 := Lib.hid (HB5.out.trans (hb6.mono HB5.out.size)); clear hb6)
            go_ret
            exact ⟨rfl, HB6.out⟩
end Go.Proofs.Ytmnjmlnpmifiiaa.codeBack
