/-
  THE WALK OF ValueBack.
-/
import Derived.Test.YtjfpkjpicalfmaaDoorOpenE
namespace Go.Proofs.YtjfpkjpicalfmaaDoor
open Go.RowKit Go.Sort
theorem readV_n (s : ByteArray) : In64 (readV s).n := by
  unfold readV
  split
  · exact near_n s
  · show In64 0; unfold In64; omega
theorem readV_s (s : ByteArray) (h : s.size ≤ 1048576) : (readV s).s.size ≤ 9223372036854775807 := by
  unfold readV
  split
  · have := near_s s; omega
  · exact Nat.zero_le _
theorem print_size {v : V} (hn : In64 v.n) : (printB v).size ≤ 1048576 := by
  unfold printB
  split
  · rename_i hm
    split
    · show 4 ≤ _; omega
    · split
      · generalize veq v.k v.n v.s 3 1 ⟨#[]⟩ = q
        cases q
        · decide
        · decide
      · split
        · have := Lib.itoa_length_le v.n hn.1 hn.2
          show (Lib.itoa v.n).toArray.size ≤ _
          simp
          omega
        · have h1 := may_size hm
          have h2 := (esc_size v.s).2
          rw [ByteArray.size_append, ByteArray.size_append]
          have h3 : (⟨#[39]⟩ : ByteArray).size = 1 := rfl
          omega
  · exact Nat.zero_le _
theorem p1_boxes {w w' : World} {a : V} (h : Below (w.alloc (.cells #[.int .i64 a.k, .int .i64 a.n, .string a.s] 23)).heap.size (w.alloc (.cells #[.int .i64 a.k, .int .i64 a.n, .string a.s] 23)) w') :
    (w'.cell? ⟨w.heap.size, 0, none⟩ = some (.int .i64 a.k) ∧ w'.cell? ⟨w.heap.size, 1, none⟩ = some (.int .i64 a.n) ∧ w'.cell? ⟨w.heap.size, 2, none⟩ = some (.string a.s)) ∧ Below w.heap.size w w' :=
  ⟨(Box.new w a.k a.n a.s).up h, below_trans ((Below.refl _ _).alloc (Nat.le_refl _) _) h⟩
namespace valueBack
attribute [local go_sem high] run_eq23 run_neq23 run_eq9 run_neq9

set_option maxRecDepth 100000 in
set_option maxHeartbeats 8000000 in
theorem walked (a : V) (b : ByteArray) (w : World) (ha : VOk a) (hb : b.size ≤ 1048576) (hw : Sm w) (hx : Er w ∧ Pw w) :
    Calls Tryd.prog 11 #[a.agg, .string b] w fun e w' => e = .returned (.bool true) ∧ Below w.heap.size w w' := by
  have C1 := Lib.hid (print_any a ha.s ha.n)
  have C2 := Lib.hid (may_any a.k a.n a.s ha.s)
  have C3 := Lib.hid (read_any (printB a) (print_size ha.n))
  have C4 := Lib.hid (read_any b hb)
  have C5 := Lib.hid (print_any (readV b) (readV_s b hb) (readV_n b))
  have F1 : Hid (a.may = true → readV (printB a) = a ∧ readE (printB a) = 0) := by
    show (a.may = true → readV (printB a) = a ∧ readE (printB a) = 0)
    exact fun h => read_print h ha.n
  have F2 : Hid (readE b = 0 → printE (readV b) = 0 ∧ seq (printB (readV b)) b = true) := by
    show (readE b = 0 → printE (readV b) = 0 ∧ seq (printB (readV b)) b = true)
    exact fun h => print_read h
  have HPE : Hid (printE a = if a.may then 0 else 5) := rfl
  rw [HPE.out] at C1
  have em : V.may a = may a.k a.n a.s := rfl
  rw [em] at C1 F1
  have HT := Lib.hid (fun (w' : World) (h : Below (w.alloc (.cells #[.int .i64 a.k, .int .i64 a.n, .string a.s] 23)).heap.size (w.alloc (.cells #[.int .i64 a.k, .int .i64 a.n, .string a.s] 23)) w') => p1_boxes h)
  have HA := Lib.hid (fun (W : World) (h : Sm W) => awake_any W h)
  have hbel0 : Below w.heap.size w (w.alloc (.cells #[.int .i64 a.k, .int .i64 a.n, .string a.s] 23)) := (Below.refl _ _).alloc (Nat.le_refl _) _
  have HB0 := Lib.hid hbel0
  have HM0 := Lib.hid (Below.refl (w.alloc (.cells #[.int .i64 a.k, .int .i64 a.n, .string a.s] 23)).heap.size (w.alloc (.cells #[.int .i64 a.k, .int .i64 a.n, .string a.s] 23)))
  have HW := Lib.hid hw
  have HX := Lib.hid hx.1
  have HP := Lib.hid hx.2
  clear hw hx hbel0 ha hb HPE em
  generalize readV (printB a) = x3 at C3 F1
  generalize readE (printB a) = e3 at C3 F1
  generalize printB a = pb at C1 C3
  generalize printE (readV b) = e5 at C5 F2
  generalize printB (readV b) = p5 at C5 F2
  generalize readV b = x4 at C4 C5
  generalize readE b = e4 at C4 F2
  unfold V.agg
  generalize hM2 : w.alloc (.cells #[.int .i64 a.k, .int .i64 a.n, .string a.s] 23) = MM at HT HM0 HB0
  obtain ⟨k, n, s⟩ := a
  obtain ⟨k3, n3, s3⟩ := x3
  obtain ⟨k4, n4, s4⟩ := x4
  simp only [V.mk.injEq] at C1 C2 C3 C4 C5 F1 HT hM2 ⊢
  have HMM := Lib.hid hM2
  rw [← HMM.out] at HB0
  clear hM2
  have qv := (veq_refl k n s)
  generalize may k n s = mm at C1 C2 F1
  cases mm
  · rw [if_neg (by decide)] at C1
    go_enter Tryd.func11, Tryd.ntmps11
    go_wp2_with fail
    refine (C1.out _ (HW.out.below HB0.out) (tab_below HP.out HB0.out)).mono ?_
    rintro e w1 ⟨rfl, hb1⟩
    rw [HMM.out] at hb1
    have HM1 := Lib.hid hb1
    clear hb1
    obtain ⟨⟨c0, c1, c2⟩, hbel⟩ := HT.out w1 HM1.out
    go_wp2_with fail
    refine (C2.out _).mono ?_
    rintro e w2 ⟨rfl, hb2⟩
    have HM2 := Lib.hid (below_trans HM1.out hb2)
    clear hb2 hbel c0 c1 c2
    obtain ⟨⟨c0, c1, c2⟩, hbel⟩ := HT.out w2 HM2.out
    go_wp2_with fail
    refine (C4.out _ (HW.out.below hbel) (HX.out.below hbel) (tab_below HP.out hbel)).mono ?_
    rintro e w3 ⟨rfl, hb3⟩
    have HM3 := Lib.hid (below_trans HM2.out hb3)
    clear hb3 hbel c0 c1 c2
    obtain ⟨⟨c0, c1, c2⟩, hbel⟩ := HT.out (w3.alloc (.cells #[.int .i64 k4, .int .i64 n4, .string s4] 23)) (HM3.out.alloc HM3.out.size (.cells #[.int .i64 k4, .int .i64 n4, .string s4] 23))
    obtain ⟨r3_0, r3_1, r3_2⟩ := Box.new w3 k4 n4 s4
    by_cases h4 : e4 = 0
    · obtain ⟨rfl, h5⟩ := F2.out h4
      subst h4
      go_wp2_with fail
      refine (C5.out _ (HW.out.below hbel) (tab_below HP.out hbel)).mono ?_
      rintro e w4 ⟨rfl, hb4⟩
      have HM4 := Lib.hid (below_step HM3.out hb4)
      have R3 := Lib.hid ((Box.new w3 k4 n4 s4).up hb4)
      clear hb4 hbel c0 c1 c2 r3_0 r3_1 r3_2
      obtain ⟨⟨c0, c1, c2⟩, hbel⟩ := HT.out w4 HM4.out
      obtain ⟨r3_0, r3_1, r3_2⟩ := R3.out
      go_wp2_with fail
      refine (HA.out _ (HW.out.below hbel)).mono ?_
      rintro e w5 ⟨rfl, hb5⟩
      have HB := Lib.hid (below_trans hbel hb5)
      clear hb5 hbel
      go_wp2
      go_ret
      exact ⟨rfl, HB.out⟩
    · have h4b : (e4 == 0) = false := by simpa using h4
      go_wp2_with fail
      refine (HA.out _ (HW.out.below hbel)).mono ?_
      rintro e w4 ⟨rfl, hb4⟩
      have HB := Lib.hid (below_trans hbel hb4)
      clear hb4 hbel
      go_wp2
      go_ret
      exact ⟨rfl, HB.out⟩
  · obtain ⟨⟨hk3, hn3, hs3⟩, he3⟩ := F1.out (by simp)
    rw [if_pos rfl] at C1
    replace hk3 := hk3.symm
    replace hn3 := hn3.symm
    replace hs3 := hs3.symm
    subst hk3 hn3 hs3 he3
    go_enter Tryd.func11, Tryd.ntmps11
    go_wp2_with fail
    refine (C1.out _ (HW.out.below HB0.out) (tab_below HP.out HB0.out)).mono ?_
    rintro e w1 ⟨rfl, hb1⟩
    rw [HMM.out] at hb1
    have HM1 := Lib.hid hb1
    clear hb1
    obtain ⟨⟨c0, c1, c2⟩, hbel⟩ := HT.out w1 HM1.out
    go_wp2_with fail
    refine (C2.out _).mono ?_
    rintro e w2 ⟨rfl, hb2⟩
    have HM2 := Lib.hid (below_trans HM1.out hb2)
    clear hb2 hbel c0 c1 c2
    obtain ⟨⟨c0, c1, c2⟩, hbel⟩ := HT.out w2 HM2.out
    go_wp2_with fail
    refine (C3.out _ (HW.out.below hbel) (HX.out.below hbel) (tab_below HP.out hbel)).mono ?_
    rintro e w3 ⟨rfl, hb3⟩
    have HM3 := Lib.hid (below_trans HM2.out hb3)
    clear hb3 hbel c0 c1 c2
    obtain ⟨⟨c0, c1, c2⟩, hbel⟩ := HT.out (w3.alloc (.cells #[.int .i64 k, .int .i64 n, .string s] 23)) (HM3.out.alloc HM3.out.size (.cells #[.int .i64 k, .int .i64 n, .string s] 23))
    obtain ⟨r3_0, r3_1, r3_2⟩ := Box.new w3 k n s
    go_wp2_with fail
    refine (C4.out _ (HW.out.below hbel) (HX.out.below hbel) (tab_below HP.out hbel)).mono ?_
    rintro e w4 ⟨rfl, hb4⟩
    have HM4 := Lib.hid (below_step HM3.out hb4)
    have R3 := Lib.hid ((Box.new w3 k n s).up hb4)
    clear hb4 hbel c0 c1 c2 r3_0 r3_1 r3_2
    obtain ⟨⟨c0, c1, c2⟩, hbel⟩ := HT.out (w4.alloc (.cells #[.int .i64 k4, .int .i64 n4, .string s4] 23)) (HM4.out.alloc HM4.out.size (.cells #[.int .i64 k4, .int .i64 n4, .string s4] 23))
    obtain ⟨r3_0, r3_1, r3_2⟩ := R3.out.alloc (.cells #[.int .i64 k4, .int .i64 n4, .string s4] 23)
    obtain ⟨r4_0, r4_1, r4_2⟩ := Box.new w4 k4 n4 s4
    by_cases h4 : e4 = 0
    · obtain ⟨rfl, h5⟩ := F2.out h4
      subst h4
      go_wp2_with fail
      refine (C5.out _ (HW.out.below hbel) (tab_below HP.out hbel)).mono ?_
      rintro e w5 ⟨rfl, hb5⟩
      have HM5 := Lib.hid (below_step HM4.out hb5)
      replace R3 := Lib.hid ((R3.out.alloc _).up hb5)
      have R4 := Lib.hid ((Box.new w4 k4 n4 s4).up hb5)
      clear hb5 hbel c0 c1 c2 r3_0 r3_1 r3_2 r4_0 r4_1 r4_2
      obtain ⟨⟨c0, c1, c2⟩, hbel⟩ := HT.out w5 HM5.out
      obtain ⟨r3_0, r3_1, r3_2⟩ := R3.out
      obtain ⟨r4_0, r4_1, r4_2⟩ := R4.out
      go_wp2_with fail
      refine (HA.out _ (HW.out.below hbel)).mono ?_
      rintro e w6 ⟨rfl, hb6⟩
      have HB := Lib.hid (below_trans hbel hb6)
      clear hb6 hbel
      go_wp2
      go_ret
      exact ⟨rfl, HB.out⟩
    · have h4b : (e4 == 0) = false := by simpa using h4
      go_wp2_with fail
      refine (HA.out _ (HW.out.below hbel)).mono ?_
      rintro e w5 ⟨rfl, hb5⟩
      have HB := Lib.hid (below_trans hbel hb5)
      clear hb5 hbel
      go_wp2
      go_ret
      exact ⟨rfl, HB.out⟩
end Go.Proofs.YtjfpkjpicalfmaaDoor.valueBack
