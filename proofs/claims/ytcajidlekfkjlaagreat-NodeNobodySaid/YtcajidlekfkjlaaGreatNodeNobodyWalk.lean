/-
  STAGE 8: the walk of NodeNobody.
-/
import Derived.Test.YtcajidlekfkjlaaGreatNZ
namespace Go.Proofs.YtcajidlekfkjlaaGreat
open Go.RowKit

set_option maxRecDepth 100000 in
theorem risEntry_any (s : ByteArray) (w : World) : Calls Tryz.prog 25 #[.string s] w fun e w' => e = .returned (.bool (isE (bs s))) ∧ w = w' := by
  unfold isE
  rw [bs_len]
  obtain ⟨n, hn⟩ : ∃ n, n = s.size := ⟨_, rfl⟩
  by_cases h1 : 1 ≤ s.size
  · have d1 : decide ((s.size : Int) ≥ 1) = true := decide_eq_true (by omega)
    have d1b : decide (1 ≤ s.size) = true := decide_eq_true h1
    have d2 : decide ((s.size : Int) ≤ 146) = decide (s.size ≤ 146) := by rw [decide_eq_decide]; omega
    go_enter Tryz.func25, Tryz.ntmps25
    go_wp2
    go_ret
    exact ⟨by rw [d1b]; rfl, rfl⟩
  · have d1 : decide ((s.size : Int) ≥ 1) = false := decide_eq_false (by omega)
    have d1b : decide (1 ≤ s.size) = false := decide_eq_false h1
    go_enter Tryz.func25, Tryz.ntmps25
    go_wp2
    go_ret
    exact ⟨by rw [d1b]; rfl, rfl⟩
theorem none_way (x : List Nat) {n : Nat} (h : n ≠ 0) : wayM none x 8 n = .error 1 := by
  unfold wayM askM
  simp [h]
theorem none_err {n : Nat} (h : n ≠ 0) : wErr none n = some 1 := by
  unfold wErr askM
  simp [h]
theorem none_leaf : ∀ q p, askM none q = .ok p → p.k = 2 := by
  intro q p h
  obtain ⟨t, ht, _⟩ := ask_ok_inv h
  cases ht
set_option maxHeartbeats 4000000 in
set_option maxRecDepth 100000 in
theorem nobody_any (n : Nat) (hn : n < 4294967296) (s : ByteArray) (w : World) : Calls Tryz.prog 7 #[.int .u32 (n : Int), .string s] w fun e w' => e = .returned (.bool true) ∧ Below w.heap.size w w' := by
  have HA := Lib.hid (fun W => alive_any W)
  have HI := Lib.hid (fun W => risEntry_any s W)
  have hG := fun W => GIn.none W No
  have hch := fun W x => ChildAll.leaf (w := W) none_leaf x
  by_cases h0 : n = 0
  · have d1 : ((n : Int) == 0) = true := by rw [h0]; rfl
    clear h0 hn hG hch
    go_enter Tryz.func7, Tryz.ntmps7
    go_wp2_with fail
    refine (HA.out _).mono ?_
    rintro e w1 ⟨rfl, hb⟩
    have HB := Lib.hid hb
    clear hb
    go_wp2_with fail
    go_ret
    exact ⟨rfl, HB.out⟩
  · have d1 : ((n : Int) == 0) = false := beq_false_of_ne (by omega)
    obtain ⟨ie, hie⟩ : ∃ ie, ie = isE (bs s) := ⟨_, rfl⟩
    rw [← hie] at HI
    cases ie with
    | false =>
      clear h0 hn hie hG hch
      go_enter Tryz.func7, Tryz.ntmps7
      go_wp2_with fail
      refine (HI.out _).mono ?_
      rintro e w1 ⟨rfl, rfl⟩
      go_wp2_with fail
      refine (HA.out _).mono ?_
      rintro e w1 ⟨rfl, hb⟩
      have HB := Lib.hid hb
      clear hb
      go_wp2_with fail
      go_ret
      exact ⟨rfl, HB.out⟩
    | true =>
      have hs := strOf_bs s
      have hlt := bs_lt s
      have hP := fun W => path_any none n (bs s) hlt hn W No (hG W) (hch W _)
      have hpm : pathM none (bs s) n = .error 1 := by unfold pathM; rw [if_pos ⟨h0, hie.symm⟩, none_way _ h0]; rfl
      have hS := fun W => Seek_any none n (bs s) hlt hn W No (hG W) (hch W _)
      have hsm : seekM none (bs s) n = .error 1 := by unfold seekM; rw [if_neg h0, none_way _ h0]
      rw [hpm, hs] at hP
      rw [hsm, hs] at hS
      have hnr : ∀ (W : World) (g : Nat), Blk W g 23 #[.int .u32 (n : Int)] → NR W All (some ⟨g, 0, none⟩) 1 [n] := fun W g hb => NR.of_blk (l := [n]) (S := All) hb trivial (by simpa using hn) rfl
      have hN := fun W g (hb : Blk W g 23 #[.int .u32 (n : Int)]) => top11_err none (some ⟨g, 0, none⟩) 1 1 [n] (bs s) hlt W No (hG W) (hnr W g hb) (hch W _) (by decide) h0 hie.symm 1 (none_way _ h0)
      have hSp := fun W g (hb : Blk W g 23 #[.int .u32 (n : Int)]) => top28_err none (some ⟨g, 0, none⟩) 1 1 [n] (bs s) hlt W No (hG W) (hnr W g hb) (hch W _) (by decide) h0 hie.symm 1 (none_way _ h0) none 0 0
      rw [hs] at hN hSp
      have hAl := fun W => top17_err none n hn 1 W No (hG W) (none_err h0)
      have hPg := fun W => top19_err none n hn 1 W No (hG W) (none_err h0)
      have hC := fun W => Check_err none n hn 1 W No (hG W) (none_err h0)
      rw [gV_none] at hP hS hN hSp hAl hPg hC
      have hP2 : ∀ W, Calls Tryz.prog 26 #[.nilFunc, .int .u32 (n : Int), .string s] W fun e w' => ∃ v, e = .returned (.tuple #[v, .int .i64 1]) ∧ OwN w' (fun b => W.heap.size ≤ b) v 0 [] ∧ Below W.heap.size W w' := hP
      have hS2 : ∀ W, Calls Tryz.prog 35 #[.nilFunc, .int .u32 (n : Int), .string s] W fun e w' => e = .returned (.tuple #[.int .u32 0, .int .i64 0, .int .i64 1]) ∧ Below W.heap.size W w' := hS
      have HP := Lib.hid hP2
      have HS := Lib.hid hS2
      have HN := Lib.hid hN
      have HSp := Lib.hid hSp
      have HAl := Lib.hid hAl
      have HPg := Lib.hid hPg
      have HC := Lib.hid hC
      clear h0 hn hie hG hch hs hlt hP hpm hS hsm hnr hN hSp hAl hPg hC hP2 hS2
      go_enter Tryz.func7, Tryz.ntmps7
      go_wp2_with fail
      refine (HI.out _).mono ?_
      rintro e w1 ⟨rfl, rfl⟩
      go_wp2_with fail
      refine (HP.out _).mono ?_
      rintro e w1 ⟨v, rfl, ho1, hb1⟩
      obtain ⟨vA, vc, rfl, _⟩ := ho1.reads
      have H1 := Lib.hid hb1
      clear hb1 ho1
      go_wp2_with fail
      refine (HS.out _).mono ?_
      rintro e w2 ⟨rfl, hb2⟩
      have H2 := Lib.hid (H1.out.trans (hb2.mono H1.out.size))
      clear hb2
      have hq3 := H2.out.alloc H2.out.size (.cells #[.int .u32 (n : Int)] 23)
      have HQ3 := Lib.hid hq3
      have HN3 := Lib.hid (HN.out (w2.alloc (.cells #[.int .u32 (n : Int)] 23)) w2.heap.size (Blk.new w2 23 _))
      clear hq3
      go_wp2_with fail
      refine HN3.out.mono ?_
      rintro e w3 ⟨rfl, hb3⟩
      have H3 := Lib.hid (HQ3.out.trans (hb3.mono HQ3.out.size))
      clear hb3
      have hq4 := H3.out.alloc H3.out.size (.cells #[.int .u32 (n : Int)] 23)
      have HQ4 := Lib.hid hq4
      have HN4 := Lib.hid (HSp.out (w3.alloc (.cells #[.int .u32 (n : Int)] 23)) w3.heap.size (Blk.new w3 23 _))
      clear hq4
      go_wp2_with fail
      refine HN4.out.mono ?_
      rintro e w4 ⟨rfl, hb4⟩
      have H4 := Lib.hid (HQ4.out.trans (hb4.mono HQ4.out.size))
      clear hb4
      go_wp2_with fail
      refine (HAl.out _).mono ?_
      rintro e w5 ⟨rfl, hb5⟩
      have H5 := Lib.hid (H4.out.trans (hb5.mono H4.out.size))
      clear hb5
      go_wp2_with fail
      refine (HPg.out _).mono ?_
      rintro e w6 ⟨rfl, hb6⟩
      have H6 := Lib.hid (H5.out.trans (hb6.mono H5.out.size))
      clear hb6
      go_wp2_with fail
      refine (HC.out _).mono ?_
      rintro e w7 ⟨rfl, hb7⟩
      have H7 := Lib.hid (H6.out.trans (hb7.mono H6.out.size))
      clear hb7
      go_wp2_with fail
      refine (HA.out _).mono ?_
      rintro e w8 ⟨rfl, hb8⟩
      have H8 := Lib.hid (H7.out.trans (hb8.mono H7.out.size))
      clear hb8
      go_wp2_with fail
      go_ret
      exact ⟨rfl, H8.out⟩
namespace nodeNobody
theorem walked (n : Nat) (s : ByteArray) (w : World) (hn : n < 4294967296) (_ : s.size ≤ maxLen) : Calls Tryz.prog 7 #[.int .u32 (n : Int), .string s] w fun e w' => e = .returned (.bool true) ∧ Below w.heap.size w w' := nobody_any n hn s w
end nodeNobody
end Go.Proofs.YtcajidlekfkjlaaGreat
