/-
SO
-/
import Derived.Test.YtdhgbkibbileiaaGreatSM
import Derived.Test.YtdhgbkibbileiaaGreatSB
set_option maxRecDepth 100000
namespace Go.Proofs.YtdhgbkibbileiaaGreat
open Go.RowKit
theorem bytesE_bare (r : RE) : bytesE r.bare = bytesE r := rfl
theorem bytesE_yes {r : RE} (h : bytesE r ≠ []) : fitsE r = true ∧ okE r = true ∧ (encE r).length + 2 ≤ 16384 ∧ bytesE r = Cd.fixB 2 ((encE r).length + 2) ++ encE r := by
 unfold bytesE at h ⊢
 by_cases hc : (fitsE r && (okE r && decide ((encE r).length + 2 ≤ 16384))) = true
 ·rw [if_pos hc]
  simp only [Bool.and_eq_true, decide_eq_true_eq] at hc
  exact ⟨hc.1, hc.2.1, hc.2.2, rfl⟩
 ·rw [if_neg hc] at h; exact absurd rfl h
theorem encE_pos (r : RE) : 1 ≤ (encE r).length := by
 unfold encE
 rw [List.length_append, Cd.fixB_len]
 omega
theorem bytesE_len {r : RE} (h : bytesE r ≠ []) : (bytesE r).length = (encE r).length + 2 := by
 obtain ⟨_, _, _, e⟩ := bytesE_yes h
 rw [e, List.length_append, Cd.fixB_len]
 omega
theorem bytesE_le (r : RE) : (bytesE r).length ≤ 16384 := by
 by_cases h : bytesE r = []
 ·rw [h]; simp
 ·rw [bytesE_len h]; exact (bytesE_yes h).2.2.1
theorem bytesE_three {r : RE} (h : bytesE r ≠ []) : 3 ≤ (bytesE r).length := by
 rw [bytesE_len h]
 have := encE_pos r
 omega
theorem bytesE_front {r : RE} (h : bytesE r ≠ []) (rest : List Nat) : Cd.unfix ((bytesE r ++ rest).take 2) = (bytesE r).length := by
 have hl := bytesE_len h
 obtain ⟨_, _, h3, e⟩ := bytesE_yes h
 have e2 : (bytesE r ++ rest).take 2 = Cd.fixB 2 ((encE r).length + 2) := by
  rw [e, List.append_assoc, List.take_append_of_le_length (by rw [Cd.fixB_len]; omega), List.take_of_length_le (by rw [Cd.fixB_len]; omega)]
 rw [e2, Cd.unfix_fixB, hl, Nat.mod_eq_of_lt (by omega)]
theorem decR_bytes {r : RE} (hr : r.In) (h : bytesE r ≠ []) (rest : List Nat) : decR (bytesE r ++ rest) = (r.bare, (bytesE r).length, 0) := by
 have hl := bytesE_len h
 have h3 := bytesE_three h
 have hle := bytesE_le r
 have hfr := bytesE_front h rest
 obtain ⟨a, b, c, e⟩ := bytesE_yes h
 have htk : (bytesE r ++ rest).take (bytesE r).length = bytesE r := List.take_left
 have hdr : (bytesE r).drop 2 = encE r := by
  rw [e, List.drop_append_of_le_length (by rw [Cd.fixB_len]; omega), List.drop_of_length_le (by rw [Cd.fixB_len]; omega), List.nil_append]
 unfold decR
 rw [if_neg (by rw [List.length_append]; omega), hfr, if_neg (by omega), if_neg (by rw [List.length_append]; omega), htk, hdr, readR_enc hr a b, bytesE_bare, if_pos rfl]
theorem zE_brief : BriefE zE := ⟨by show (0 : Nat) ≤ _; decide, by show (0 : Nat) ≤ _; decide, (fun x hx => by cases hx), by show (0 : Nat) ≤ _; decide, by show (0 : Nat) ≤ _; decide, by show (0 : Nat) ≤ _; decide⟩
theorem decR_brief (l : List Nat) : BriefE (decR l).1 ∧ (decR l).1.s = 0 := by
 unfold decR
 by_cases h1 : l.length < 2
 ·rw [if_pos h1]; exact ⟨zE_brief, rfl⟩
 ·rw [if_neg h1]
  by_cases h2 : Cd.unfix (l.take 2) < 3 ∨ 16384 < Cd.unfix (l.take 2)
  ·rw [if_pos h2]; exact ⟨zE_brief, rfl⟩
  ·rw [if_neg h2]
   by_cases h3 : l.length < Cd.unfix (l.take 2)
   ·rw [if_pos h3]; exact ⟨zE_brief, rfl⟩
   ·rw [if_neg h3]
    by_cases h4 : bytesE (readR ((l.take (Cd.unfix (l.take 2))).drop 2)) = l.take (Cd.unfix (l.take 2))
    ·rw [if_pos h4]
     obtain ⟨a, b, _⟩ := readR_brief ((l.take (Cd.unfix (l.take 2))).drop 2) (by rw [List.length_drop, List.length_take]; omega)
     exact ⟨a, b⟩
    ·rw [if_neg h4]; exact ⟨zE_brief, rfl⟩
def r300 : RV := { rz 1 with t := 300 }
def rEnd4 : RV := { rz 7 with t := 1, pg := 4 }
theorem vi300 : Cd.vi 300 = [172, 2] := by rw [Cd.vi_big (by decide), Cd.vi_small (by decide)]
theorem enc300 : encE r300.e = [1, 172, 2] := by
 show Cd.fixB 1 1 ++ ((encX (true, false, Cd.vi 300)) ++ []) = _
 unfold encX
 rw [vi300]
 rfl
theorem bytes300 : bytesE r300.e = [5, 0, 1, 172, 2] := by
 unfold bytesE
 rw [enc300]
 rfl
theorem bytesEnd4 : bytesE rEnd4.e = [] := by
 unfold bytesE
 rw [show okE rEnd4.e = false by decide]
 simp
theorem r300_In (w : World) (T : Nat → Prop) : r300.In w T := { rz_In 1 (by decide) w T with t := by show (300 : Nat) < _; decide }
theorem rEnd4_In (w : World) (T : Nat → Prop) : rEnd4.In w T := { rz_In 7 (by decide) w T with t := (by show (1 : Nat) < _; decide), pg := (by show (4 : Nat) < _; decide) }
theorem brief_rz (k : Int) (t pg : Nat) : BriefE ({ rz k with t := t, pg := pg } : RV).e := ⟨by show (0 : Nat) ≤ _; decide, by show (0 : Nat) ≤ _; decide, (fun x hx => by cases hx), by show (0 : Nat) ≤ _; decide, by show (0 : Nat) ≤ _; decide, by show (0 : Nat) ≤ _; decide⟩
theorem r300_in : r300.e.In := ⟨by show (300 : Nat) < _; decide, by show (0 : Nat) < _; decide, by show (0 : Nat) < _; decide, by show (0 : Nat) < _; decide, by show (0 : Nat) < _; decide, by show (0 : Nat) < _; decide, by show (0 : Nat) < _; decide, (fun x hx => by cases hx), (fun x hx => by cases hx), (fun x hx => by cases hx), by show (0 : Nat) < _; decide, by show (0 : Nat) < _; decide, by show (0 : Nat) < _; decide⟩
theorem dec300 : decR [5, 0, 1, 172, 2] = (r300.e.bare, 5, 0) := by
 have h := decR_bytes r300_in (by rw [bytes300]; simp) []
 rw [bytes300] at h
 exact h
theorem dec20 : decR [2, 0] = (zE, 0, 5) := by
 unfold decR
 rw [if_neg (by decide), if_pos (Or.inl (by decide))]
end Go.Proofs.YtdhgbkibbileiaaGreat
namespace Go.Proofs.YtdhgbkibbileiaaGreat
open Go.RowKit
def codeE (r : RE) : Int := if bytesE r = [] then 5 else 0
def EncE (w : World) (r : RE) (e : Ending) (w' : World) : Prop := ∃ A c, e = .returned (.tuple #[.slice A (bytesE r).length c, .int .i64 (codeE r)]) ∧ (bytesE r).length ≤ c ∧ (A = none → c = 0) ∧ RB w' (fun b => w.heap.size ≤ b) A (bytesE r).length (bytesE r) ∧ Ow w' (fun b => w.heap.size ≤ b) (.slice A (bytesE r).length c) (bytesE r).length (bytesE r) ∧ Below w.heap.size w w'
theorem encode_e (w : World) (r : RV) (h : r.In w All) (hc : Brief r) : Calls Tryz.prog 11 #[r.agg] w (EncE w r.e) := by
 refine (encode_r w r h hc).mono ?_
 rw [bytes_e h]
 rintro e w' ⟨v, rfl, ho, hb⟩
 have ho' := ho
 obtain ⟨A, c, rfl, h1, h2, h3⟩ := ho.reads
 refine ⟨A, c, ?_, h1, h2, h3, ho', hb⟩
 unfold codeE
 by_cases hn : bytesE r.e = []
 ·rw [hn]; rfl
 ·rw [if_neg hn, if_neg (fun h => hn (List.eq_nil_of_length_eq_zero h))]
theorem size_e (w : World) (r : RV) (h : r.In w All) (hc : Brief r) : Calls Tryz.prog 15 #[r.agg] w fun e w' => e = .returned (.int .i64 ((bytesE r.e).length : Int)) ∧ Below w.heap.size w w' := by
 have := size_r w r h hc
 rw [bytes_e h] at this
 exact this
theorem alive_enc (w : World) : Calls Tryz.prog 11 #[.agg #[.int .i64 1, .int .u64 0, .int .u32 300, .int .u64 0, .int .u64 0, .int .u32 0, .int .u32 0, .int .i64 0, .int .i64 0, .int .u32 0, .slice none 0 0, .slice none 0 0, .slice none 0 0, .slice none 0 0, .int .u32 0]] w fun e w' =>
  ∃ A c, e = .returned (.tuple #[.slice A 5 c, .int .i64 0]) ∧ 5 ≤ c ∧ RB w' All A 5 [5, 0, 1, 172, 2] ∧ Below w.heap.size w w' := by
 refine (encode_e w r300 (r300_In w All) (Brief.of_e (r300_In w All) (brief_rz 1 300 0))).mono ?_
 unfold EncE codeE
 rw [bytes300]
 rintro e w' ⟨A, c, rfl, h1, h2, h3, _, h4⟩
 exact ⟨A, c, rfl, h1, h3.mono fun _ _ _ => trivial, h4⟩
theorem alive_end (w : World) : Calls Tryz.prog 11 #[.agg #[.int .i64 7, .int .u64 0, .int .u32 1, .int .u64 0, .int .u64 0, .int .u32 4, .int .u32 0, .int .i64 0, .int .i64 0, .int .u32 0, .slice none 0 0, .slice none 0 0, .slice none 0 0, .slice none 0 0, .int .u32 0]] w fun e w' =>
  ∃ A c, e = .returned (.tuple #[.slice A 0 c, .int .i64 5]) ∧ Below w.heap.size w w' := by
 refine (encode_e w rEnd4 (rEnd4_In w All) (Brief.of_e (rEnd4_In w All) (brief_rz 7 1 4))).mono ?_
 unfold EncE codeE
 rw [bytesEnd4]
 rintro e w' ⟨A, c, rfl, _, _, _, _, h4⟩
 exact ⟨A, c, rfl, h4⟩
theorem alive_dec (w : World) (A : Option Addr) (c : Nat) (h : RB w All A 5 [5, 0, 1, 172, 2]) (hc : 5 ≤ c) : Calls Tryz.prog 18 #[.slice A 5 c] w fun e w' =>
  ∃ r : RV, e = .returned (.tuple #[r.agg, .int .i64 5, .int .i64 0]) ∧ r.t = 300 ∧ r.In w' All ∧ Brief r ∧ bytesE r.e = [5, 0, 1, 172, 2] ∧ Below w.heap.size w w' := by
 refine (decode_any w A 5 c _ h hc (by decide)).mono ?_
 unfold DecR
 rw [dec300]
 rintro e w' ⟨r, rfl, h1, h2, h3⟩
 have hbr := (decR_brief [5, 0, 1, 172, 2]).1
 rw [dec300] at hbr
 refine ⟨r, rfl, ?_, h2.mono fun _ _ _ => trivial, Brief.of_e h2 (by rw [h1]; exact hbr), ?_, h3⟩
 ·exact congrArg RE.t h1
 ·rw [h1]; exact bytes300
theorem alive_no (w : World) (A : Option Addr) (c : Nat) (h : RB w All A 2 [2, 0]) (hc : 2 ≤ c) : Calls Tryz.prog 18 #[.slice A 2 c] w fun e w' =>
  ∃ r : RV, e = .returned (.tuple #[r.agg, .int .i64 0, .int .i64 5]) ∧ Below w.heap.size w w' := by
 refine (decode_any w A 2 c _ h hc (by decide)).mono ?_
 unfold DecR
 rw [dec20]
 rintro e w' ⟨r, rfl, _, _, h3⟩
 exact ⟨r, rfl, h3⟩
section
attribute [local go_sem high] run_neqL run_eqL
set_option maxHeartbeats 4000000 in
theorem alive_any (w : World) : Calls Tryz.prog 9 #[] w fun e w' => e = .returned (.bool true) ∧ Below w.heap.size w w' := by
 have H1 := Lib.hid (alive_enc w)
 go_enter Tryz.func9, Tryz.ntmps9
 go_wp2_with fail
 with_reducible refine H1.out.mono ?_
 rintro e w1 ⟨A, c, rfl, hc, hrb, hb1⟩
 have H2 := Lib.hid (alive_dec w1 A c hrb hc)
 have HRB := Lib.hid hrb
 have HB1 := Lib.hid hb1
 clear hc hrb hb1
 go_wp2_with fail
 with_reducible refine H2.out.mono ?_
 rintro e w2 ⟨r, rfl, hrt, hri, hbr, hby, hb2⟩
 obtain ⟨W2, hW2⟩ : ∃ W2, w2.alloc (.cells (rcs r) 31) = W2 := ⟨_, rfl⟩
 have HX2 : Hid (Blk W2 w2.heap.size 31 (rcs r)) := Lib.hid (by rw [← hW2]; exact Blk.new w2 31 _)
 have hbW2 : Below w2.heap.size w2 W2 := by rw [← hW2]; exact (Below.refl _ _).alloc (Nat.le_refl _) _
 have HB2 := Lib.hid (hb2.trans (hbW2.mono hb2.size))
 have HRI := Lib.hid (hri.keep (Fr.of_below hbW2 No) fun _ _ hn => hn)
 have HRB2 := Lib.hid ((HRB.out.keep (Fr.of_below hb2 No) fun _ _ hn => hn).keep (Fr.of_below hbW2 No) fun _ _ hn => hn)
 have HBR := Lib.hid hbr
 have HBY := Lib.hid hby
 have HRT := Lib.hid hrt
 have H3 := Lib.hid (alive_end W2)
 simp only [rcs] at hW2
 unfold RV.agg
 clear hri hbr hby hb2 hbW2 hrt
 go_wp2_with fail
 with_reducible refine H3.out.mono ?_
 rintro e w3 ⟨A3, c3, rfl, hb3⟩
 obtain ⟨W3, hW3⟩ : ∃ W3, w3.alloc (.cells #[.int .u8 2, .int .u8 0] 5) = W3 := ⟨_, rfl⟩
 have hbk : Blk W3 w3.heap.size 5 #[.int .u8 2, .int .u8 0] := by rw [← hW3]; exact Blk.new w3 5 _
 have hbW3 : Below w3.heap.size w3 W3 := by rw [← hW3]; exact (Below.refl _ _).alloc (Nat.le_refl _) _
 have hr20 : RB W3 All (some ⟨w3.heap.size, 0, none⟩) 2 [2, 0] := by
  refine ⟨rfl, by simp, fun _ => ⟨_, rfl, hbk.lt, trivial, fun j hj => ?_⟩⟩
  have k0 := hbk.cell 0
  have k1 := hbk.cell 1
  simp only [List.getElem?_toArray, List.getElem?_cons_zero, List.getElem?_cons_succ] at k0 k1
  rw [add_head]
  rcases (show j = 0 ∨ j = 1 by omega) with rfl | rfl
  ·exact k0
  ·exact k1
 have H4 := Lib.hid (alive_no W3 _ 2 hr20 (Nat.le_refl _))
 have HB3 := Lib.hid (hb3.trans (hbW3.mono hb3.size))
 clear hbk hb3 hbW3 hr20
 go_wp2_with fail
 with_reducible refine H4.out.mono ?_
 rintro e w4 ⟨r4, rfl, hb4⟩
 obtain ⟨W4, hW4⟩ : ∃ W4, w4.alloc (.cells (rcs r4) 31) = W4 := ⟨_, rfl⟩
 have hbW4 : Below w4.heap.size w4 W4 := by rw [← hW4]; exact (Below.refl _ _).alloc (Nat.le_refl _) _
 have hb24 : Below W2.heap.size W2 W4 := HB3.out.trans ((hb4.trans (hbW4.mono hb4.size)).mono HB3.out.size)
 have HB4 := Lib.hid hb24
 have hX4 := HX2.out.below hb24 HX2.out.lt
 obtain ⟨y0, y1, y2, y3, y4, y5, y6, y7, y8, y9, y10, y11, y12, y13, y14⟩ := rcs_cells hX4
 have hcv := run_conv All A 5 c [5, 0, 1, 172, 2] W4 (HRB2.out.keep (Fr.of_below hb24 No) fun _ _ hn => hn)
 have hsq : ((strOf [5, 0, 1, 172, 2]).toList == [5, 0, 1, 172, 2]) = true := by rw [ByteArray.toList_eq]; rfl
 have hrt : ((r.t : Int) == 300) = true := by rw [HRT.out]; rfl
 have HSZ := Lib.hid (size_e W4 r (HRI.out.keep (Fr.of_below hb24 No) fun _ _ hn => hn) HBR.out)
 rw [HBY.out] at HSZ
 simp only [rcs] at hW4
 unfold RV.agg at HSZ ⊢
 clear hb4 hbW4 hb24 hX4
 go_wp2_with fail
 with_reducible refine HSZ.out.mono ?_
 rintro e w5 ⟨rfl, hb5⟩
 have HB5 := Lib.hid hb5
 clear hb5
 go_wp2_with fail
 go_ret
 have hs1 := HB1.out.size
 have hs2 := HB2.out.size
 have hs4 := HB4.out.size
 exact ⟨rfl, HB1.out.trans ((HB2.out.mono hs1).trans ((HB4.out.mono (Nat.le_trans hs1 hs2)).trans (HB5.out.mono (Nat.le_trans (Nat.le_trans hs1 hs2) hs4))))⟩
end
end Go.Proofs.YtdhgbkibbileiaaGreat
