/-
  THE WALKS OF THE document's first and Decode.
-/
import Derived.Test.YtjhlfgomoookjaaWalkH
namespace Go.Proofs.Ytjhlfgomoookjaa
open Go.RowKit Go.Sort
attribute [local go_sem high] run_eqv run_neqv run_eqs

/-- what first answers -/
def FirstOut (w : World) (s : ByteArray) (e : Ending) (w' : World) : Prop :=
  Below w.heap.size w w' ∧ ((∃ (v : V) (k : Nat), un1 (sb s) = some (v, (sb s).drop k) ∧ 0 < k ∧ k ≤ s.size ∧ v.s.size ≤ s.size ∧ e = .returned (.tuple #[.agg #[.int .i64 v.k, .int .i64 v.n, .string v.s], .int .i64 (k : Int)])) ∨
    (un1 (sb s) = none ∧ e = .returned (.tuple #[.agg #[.int .i64 0, .int .i64 0, .string ⟨#[]⟩], .int .i64 0])))
theorem below_out (w : World) (o : Obj) : Below w.heap.size w (w.alloc o) := (Below.refl _ _).alloc (Nat.le_refl _) _
theorem sb_get (s : ByteArray) (j : Nat) (h : j < s.size) : (sb s)[j]? = some s[j].toNat := by
  have e := drop_at s j h
  have e2 : ((sb s).drop j)[0]? = (sb s)[j]? := by rw [List.getElem?_drop]; rfl
  rw [← e2, e]
  rfl
theorem sb_head (s : ByteArray) (h : 0 < s.size) : sb s = s[0].toNat :: (sb s).drop 1 := by
  have := drop_at s 0 h
  simpa using this
theorem un1_1 (l : List Nat) : un1 (1 :: l) = some (⟨0, 0, ⟨#[]⟩⟩, l) := by simp [un1]
theorem un1_2 (l : List Nat) : un1 (2 :: l) = some (⟨3, 0, ⟨#[]⟩⟩, l) := by simp [un1]
theorem un1_3 (l : List Nat) : un1 (3 :: l) = some (⟨3, 1, ⟨#[]⟩⟩, l) := by simp [un1]
theorem un1_4 (l : List Nat) : un1 (4 :: l) = if 8 ≤ l.length then some (⟨1, (val (l.take 8) : Int) - 9223372036854775808, ⟨#[]⟩⟩, l.drop 8) else none := by simp [un1]
theorem un1_5 (l : List Nat) : un1 (5 :: l) = (unT l).map fun p => (⟨2, 0, bs p.1⟩, p.2) := by simp [un1]
theorem un1_x {m : Nat} (h1 : m ≠ 1) (h2 : m ≠ 2) (h3 : m ≠ 3) (h4 : m ≠ 4) (h5 : m ≠ 5) (l : List Nat) : un1 (m :: l) = none := by simp [un1, h1, h2, h3, h4, h5]
theorem nil_size (n : Nat) : ((⟨#[]⟩ : ByteArray)).size ≤ n := Nat.zero_le _

set_option maxRecDepth 100000 in
set_option maxHeartbeats 1000000 in
theorem first1 (s : ByteArray) (h0 : 0 < s.size) (hm : s[0].toNat = 1) (w : World) : Calls Try.prog 25 #[.string s] w (FirstOut w s) := by
  have hh := sb_head s h0
  rw [hm] at hh
  have HU : Hid (un1 (sb s) = some (⟨0, 0, ⟨#[]⟩⟩, (sb s).drop 1)) := by show _ = _; rw [hh, un1_1]; simp
  clear hh
  go_enter Try.func25, Try.ntmps25
  go_wp2
  refine bodyPost_ret (v := .tuple #[.agg #[.int .i64 0, .int .i64 0, .string ⟨#[]⟩], .int .i64 1]) (by simp [results, Try.results25, go_sem]) rfl ?_
  exact ⟨below_out _ _, Or.inl ⟨_, 1, HU.out, by omega, h0, nil_size _, rfl⟩⟩
set_option maxRecDepth 100000 in
set_option maxHeartbeats 1000000 in
theorem first2 (s : ByteArray) (h0 : 0 < s.size) (hm : s[0].toNat = 2) (w : World) : Calls Try.prog 25 #[.string s] w (FirstOut w s) := by
  have hh := sb_head s h0
  rw [hm] at hh
  have HU : Hid (un1 (sb s) = some (⟨3, 0, ⟨#[]⟩⟩, (sb s).drop 1)) := by show _ = _; rw [hh, un1_2]; simp
  clear hh
  go_enter Try.func25, Try.ntmps25
  go_wp2
  refine bodyPost_ret (v := .tuple #[.agg #[.int .i64 3, .int .i64 0, .string ⟨#[]⟩], .int .i64 1]) (by simp [results, Try.results25, go_sem]) rfl ?_
  exact ⟨below_out _ _, Or.inl ⟨_, 1, HU.out, by omega, h0, nil_size _, rfl⟩⟩
set_option maxRecDepth 100000 in
set_option maxHeartbeats 1000000 in
theorem first3 (s : ByteArray) (h0 : 0 < s.size) (hm : s[0].toNat = 3) (w : World) : Calls Try.prog 25 #[.string s] w (FirstOut w s) := by
  have hh := sb_head s h0
  rw [hm] at hh
  have HU : Hid (un1 (sb s) = some (⟨3, 1, ⟨#[]⟩⟩, (sb s).drop 1)) := by show _ = _; rw [hh, un1_3]; simp
  clear hh
  go_enter Try.func25, Try.ntmps25
  go_wp2
  refine bodyPost_ret (v := .tuple #[.agg #[.int .i64 3, .int .i64 1, .string ⟨#[]⟩], .int .i64 1]) (by simp [results, Try.results25, go_sem]) rfl ?_
  exact ⟨below_out _ _, Or.inl ⟨_, 1, HU.out, by omega, h0, nil_size _, rfl⟩⟩
set_option maxRecDepth 100000 in
set_option maxHeartbeats 1000000 in
theorem firstx (s : ByteArray) (h0 : 0 < s.size) (m : Nat) (hm : s[0].toNat = m) (h1 : m ≠ 1) (h2 : m ≠ 2) (h3 : m ≠ 3) (h4 : m ≠ 4) (h5 : m ≠ 5) (w : World) : Calls Try.prog 25 #[.string s] w (FirstOut w s) := by
  have hh := sb_head s h0
  rw [hm] at hh
  have HU : Hid (un1 (sb s) = none) := by show _ = _; rw [hh, un1_x h1 h2 h3 h4 h5]
  have e1 : ((m : Int) == 1) = false := by simp; omega
  have e2 : ((m : Int) == 2) = false := by simp; omega
  have e3 : ((m : Int) == 3) = false := by simp; omega
  have e4 : ((m : Int) == 4) = false := by simp; omega
  have e5 : ((m : Int) == 5) = false := by simp; omega
  clear hh h1 h2 h3 h4 h5
  go_enter Try.func25, Try.ntmps25
  go_wp2
  refine bodyPost_ret (v := .tuple #[.agg #[.int .i64 0, .int .i64 0, .string ⟨#[]⟩], .int .i64 0]) (by simp [results, Try.results25, go_sem]) rfl ?_
  exact ⟨below_out _ _, Or.inr ⟨HU.out, rfl⟩⟩
set_option maxRecDepth 100000 in
set_option maxHeartbeats 1000000 in
theorem first4s (s : ByteArray) (h0 : 0 < s.size) (hm : s[0].toNat = 4) (h9 : ¬ 9 ≤ s.size) (w : World) : Calls Try.prog 25 #[.string s] w (FirstOut w s) := by
  have hh := sb_head s h0
  rw [hm] at hh
  have HU : Hid (un1 (sb s) = none) := by show _ = _; rw [hh, un1_4, if_neg]; simp [sb_len]; omega
  have hd : decide ((s.size : Int) ≥ 9) = false := decide_eq_false (by omega)
  clear hh
  go_enter Try.func25, Try.ntmps25
  go_wp2
  refine bodyPost_ret (v := .tuple #[.agg #[.int .i64 0, .int .i64 0, .string ⟨#[]⟩], .int .i64 0]) (by simp [results, Try.results25, go_sem]) rfl ?_
  exact ⟨below_out _ _, Or.inr ⟨HU.out, rfl⟩⟩

theorem sub_top64 (x : Nat) (h : x < 18446744073709551616) : wrap64 (IntKind.u64.wrap ((x : Int) - 9223372036854775808)) = (x : Int) - 9223372036854775808 := by
  rw [IntKind.wrap_u64]
  unfold wrap64
  omega
set_option maxRecDepth 100000 in
set_option maxHeartbeats 2000000 in
theorem first4 (s : ByteArray) (h0 : 0 < s.size) (hm : s[0].toNat = 4) (h9 : 9 ≤ s.size) (w : World) : Calls Try.prog 25 #[.string s] w (FirstOut w s) := by
  have hh := sb_head s h0
  rw [hm] at hh
  have HU : Hid (un1 (sb s) = some (⟨1, (val (((sb s).drop 1).take 8) : Int) - 9223372036854775808, ⟨#[]⟩⟩, (sb s).drop 9)) := by
    have he : un1 (sb s) = un1 (4 :: (sb s).drop 1) := by rw [← hh]
    show _ = _
    rw [he, un1_4, if_pos (by simp [sb_len]; omega), List.drop_drop]
  have hd : decide ((s.size : Int) ≥ 9) = true := decide_eq_true (by omega)
  clear hh
  go_enter Try.func25, Try.ntmps25
  go_wp2
  go_loopw [4, 5] (fun a i wr => ∃ k : Nat, k ≤ 8 ∧ i = .int .i64 ((k + 1 : Nat) : Int) ∧ a = .int .u64 (val (((sb s).drop 1).take k) : Int) ∧ wr = w.alloc (.cells #[.int .i64 0, .int .i64 0, .string ⟨#[]⟩] 34)) (fun _ i _ => 9 - (intOf i).toNat)
  case atStart => exact ⟨0, by omega, rfl, by simp [val], rfl⟩
  case round =>
    obtain ⟨k, hk, rfl, rfl, rfl⟩ := hrel
    have hvl : val (((sb s).drop 1).take k) < 256 ^ k := by
      have := val_lt (((sb s).drop 1).take k) (fun x hx => sb_lt s x (List.mem_of_mem_drop (List.mem_of_mem_take hx)))
      rw [List.length_take, List.length_drop, sb_len, Nat.min_eq_left (by omega)] at this
      exact this
    by_cases hlt : k < 8
    · have hkt : k + 1 < s.size := by omega
      have hb := s[k + 1].toNat_lt
      have hva : val (((sb s).drop 1).take (k + 1)) = val (((sb s).drop 1).take k) * 256 + s[k + 1].toNat := by
        rw [List.take_add_one, List.getElem?_drop, show 1 + k = k + 1 by omega, sb_get s (k + 1) hkt]
        exact val_snoc _ _
      have h7 : val (((sb s).drop 1).take k) < 72057594037927936 := Nat.lt_of_lt_of_le hvl (by
        have := Nat.pow_le_pow_right (n := 256) (i := k) (j := 7) (by omega) (by omega)
        exact this)
      obtain ⟨m, hm'⟩ : ∃ m, m = val (((sb s).drop 1).take k) := ⟨_, rfl⟩
      rw [← hm'] at h7 hva ⊢
      generalize hbe : s[k + 1].toNat = b at hva hb
      have hd1 : decide (((k + 1 : Nat) : Int) < 9) = true := decide_eq_true (by omega)
      have hsh : IntKind.u64.wrap ((m : Int) * 256) = ((m * 256 : Nat) : Int) := by rw [IntKind.wrap_u64]; omega
      have hsu : IntKind.u64.wrap (((m * 256 : Nat) : Int) + (b : Int)) = ((m * 256 + b : Nat) : Int) := by rw [IntKind.wrap_u64]; omega
      have HVA := Lib.hid hva
      clear hvl hm' hva
      go_wp2
      go_roundw
      case rel => exact ⟨k + 1, by omega, by go_num, by rw [HVA.out]; go_num, by simp⟩
      case measure => simp [intOf]; omega
    · obtain rfl : k = 8 := by omega
      obtain ⟨x, hx⟩ : ∃ x, x = val (((sb s).drop 1).take 8) := ⟨_, rfl⟩
      rw [← hx] at hvl HU ⊢
      obtain ⟨z, hz⟩ : ∃ z, z = (x : Int) - 9223372036854775808 := ⟨_, rfl⟩
      have hvb : wrap64 (IntKind.u64.wrap ((x : Int) - 9223372036854775808)) = z := by rw [hz]; exact sub_top64 x (by simpa using hvl)
      rw [← hz] at HU
      clear hvl hz hx
      go_wp2
      refine bodyPost_ret (v := .tuple #[.agg #[.int .i64 1, .int .i64 z, .string ⟨#[]⟩], .int .i64 9]) (by simp [results, Try.results25, go_sem]) rfl ?_
      exact ⟨below_out _ _, Or.inl ⟨_, 9, HU.out, by omega, h9, nil_size _, rfl⟩⟩

theorem below_res {w W' : World} (h : Below w.heap.size w W') (a b c : Value) : Below w.heap.size w (((W'.setCell ⟨w.heap.size, 0, none⟩ a).setCell ⟨w.heap.size, 1, none⟩ b).setCell ⟨w.heap.size, 2, none⟩ c) :=
  ((h.setCell (p := ⟨w.heap.size, 0, none⟩) (Nat.le_refl _) a).setCell (p := ⟨w.heap.size, 1, none⟩) (Nat.le_refl _) b).setCell (p := ⟨w.heap.size, 2, none⟩) (Nat.le_refl _) c
set_option maxRecDepth 100000 in
set_option maxHeartbeats 4000000 in
theorem first5 (s : ByteArray) (h0 : 0 < s.size) (hm : s[0].toNat = 5) (h140 : s.size ≤ 140) (w : World) : Calls Try.prog 25 #[.string s] w (FirstOut w s) := by
  have hh := sb_head s h0
  rw [hm] at hh
  have HU : Hid (un1 (sb s) = (unT ((sb s).drop 1)).map fun p => (⟨2, 0, bs p.1⟩, p.2)) := by
    have he : un1 (sb s) = un1 (5 :: (sb s).drop 1) := by rw [← hh]
    show _ = _
    rw [he, un1_5]
  clear hh
  obtain ⟨W, hW⟩ : ∃ W, W = w.alloc (.cells #[.int .i64 0, .int .i64 0, .string ⟨#[]⟩] 34) := ⟨_, rfl⟩
  have HZ := Lib.hid (show Zero W w.heap.size by rw [hW]; exact Zero.new w)
  have HWB := Lib.hid (show Below w.heap.size w W by rw [hW]; exact below_out _ _)
  have hsz : W.heap.size = w.heap.size + 1 := by rw [hW]; simp
  go_enter Try.func25, Try.ntmps25
  go_wp2
  go_loopw [6, 7] (fun v0 i wr => ∃ (j : Nat) (l : List Nat) (u : Value), u = v0 ∧ 1 ≤ j ∧ j ≤ s.size ∧ i = .int .i64 (j : Int) ∧ Own W wr u l ∧ l.length ≤ j ∧ unT ((sb s).drop 1) = (unT ((sb s).drop j)).map fun z => (l ++ z.1, z.2)) (fun _ i _ => s.size - (intOf i).toNat)
  case atStart => exact ⟨1, [], _, rfl, by omega, by omega, rfl, by rw [← hW]; exact Own.nil_ W, by simp, by simp⟩
  case round =>
    obtain ⟨j, l, u, rfl, hj1, hjs, rfl, ho, hlj, hun⟩ := hrel
    have hzr : Zero wr w.heap.size := Zero.below HZ.out ho.2 (by omega)
    obtain ⟨⟨r0, r1, r2⟩, f0, f1, f2⟩ := hzr.facts
    have hswr : W.heap.size ≤ wr.heap.size := ho.2.size
    have HO := Lib.hid ho
    have HUN := Lib.hid hun
    have HBL := Lib.hid (fun (W' : World) (h : Below W.heap.size W W') (a b c : Value) => below_res (w := w) (HWB.out.trans (Below.mono (B' := w.heap.size) h (by omega))) a b c)
    clear ho hun hzr
    by_cases h1 : j < s.size
    · have hd := drop_at s j h1
      have hx256 := s[j].toNat_lt
      generalize hxe : s[j].toNat = x at hd hx256
      have HD := Lib.hid hd
      clear hd
      by_cases hx0 : x = 0
      · subst hx0
        by_cases h2 : j + 1 < s.size
        · have hd2 := drop_at s (j + 1) h2
          have hy256 := s[j + 1].toNat_lt
          generalize hye : s[j + 1].toNat = y at hd2 hy256
          have HD2 := Lib.hid hd2
          have hdd : decide (((j : Nat) : Int) + 1 < (s.size : Int)) = true := decide_eq_true (by omega)
          have hdg : decide (((j : Nat) : Int) + 1 ≥ (s.size : Int)) = false := decide_eq_false (by omega)
          clear hd2
          by_cases hy1 : y = 1
          · subst hy1
            obtain ⟨A, c, rfl, _, _, hr⟩ := HO.out.1.reads
            have hcv := run_conv _ A _ c l wr hr
            have hlt := HO.out.lt
            have HR : Hid (un1 (sb s) = some (⟨2, 0, bs l⟩, (sb s).drop (j + 2))) := by
              show _ = _
              rw [HU.out, HUN.out, HD.out, HD2.out, unT_ends]
              simp
            have hbz : (bs l).size ≤ s.size := by rw [bs_size]; omega
            clear hr hlt
            generalize bs l = T at hcv HR hbz
            go_wp2
            refine bodyPost_ret (v := .tuple #[.agg #[.int .i64 2, .int .i64 0, .string T], .int .i64 ((j + 2 : Nat) : Int)]) (by simp [results, Try.results25, go_sem, r0, r1, r2]) rfl ?_
            exact ⟨HBL.out _ HO.out.2 _ _ _, Or.inl ⟨_, j + 2, HR.out, by omega, by omega, hbz, rfl⟩⟩
          · have hz1 : ((y : Int) == 1) = false := by simp; omega
            by_cases hy2 : y = 255
            · subst hy2
              go_wp2_with (at_builtin; go_must (refine wpList_app rfl (.tmp 98) (.tmp 99) rfl u _ l rfl (HO.out.alloc _).1 (fun _ => True) _ 1 1 [0] rfl (by exact one_at _ _ 0 _ (by simp) (by rfl) (by omega)) (by omega) ?_); intro v1 w3 hown hgrow; have HS := Lib.hid (Own.step (HO.out.alloc _) hgrow hown); clear hown hgrow)
              go_roundw
              case rel =>
                refine ⟨j + 2, l ++ [0], _, rfl, by omega, by omega, by go_num, HS.out, by simp; omega, ?_⟩
                rw [HUN.out, HD.out, HD2.out, unT_stays]
                simp [Option.map_map, Function.comp_def]
              case measure => simp [intOf]; omega
            · have hz2 : ((y : Int) == 255) = false := by simp; omega
              have HN : Hid (un1 (sb s) = none) := by
                show _ = _
                rw [HU.out, HUN.out, HD.out, HD2.out, unT_bad hy1 hy2]
                rfl
              go_wp2
              refine bodyPost_ret (v := .tuple #[.agg #[.int .i64 0, .int .i64 0, .string ⟨#[]⟩], .int .i64 0]) (by simp [results, Try.results25, go_sem, r0, r1, r2]) rfl ?_
              exact ⟨HBL.out _ HO.out.2 _ _ _, Or.inr ⟨HN.out, rfl⟩⟩
        · have hdd : decide (((j : Nat) : Int) + 1 < (s.size : Int)) = false := decide_eq_false (by omega)
          have hdg : decide (((j : Nat) : Int) + 1 ≥ (s.size : Int)) = true := decide_eq_true (by omega)
          have HN : Hid (un1 (sb s) = none) := by
            show _ = _
            rw [HU.out, HUN.out, HD.out, drop_end s (j + 1) (by omega)]
            rfl
          go_wp2
          refine bodyPost_ret (v := .tuple #[.agg #[.int .i64 0, .int .i64 0, .string ⟨#[]⟩], .int .i64 0]) (by simp [results, Try.results25, go_sem, r0, r1, r2]) rfl ?_
          exact ⟨HBL.out _ HO.out.2 _ _ _, Or.inr ⟨HN.out, rfl⟩⟩
      · have hz : ((x : Int) == 0) = false := by simp; omega
        go_wp2_with (at_builtin; go_must (refine wpList_app rfl (.tmp 101) (.tmp 105) rfl u _ l rfl (HO.out.alloc _).1 (fun _ => True) _ 1 1 [x] rfl (by exact one_at _ _ x _ (by simp) (by rfl) (by omega)) (by omega) ?_); intro v1 w3 hown hgrow; have HS := Lib.hid (Own.step (HO.out.alloc _) hgrow hown); clear hown hgrow)
        go_roundw
        case rel =>
          refine ⟨j + 1, l ++ [x], _, rfl, by omega, by omega, by go_num, HS.out, by simp; omega, ?_⟩
          rw [HUN.out, HD.out, unT_cons hx0]
          simp [Option.map_map, Function.comp_def]
        case measure => simp [intOf]; omega
    · obtain rfl : j = s.size := by omega
      have HN : Hid (un1 (sb s) = none) := by
        show _ = _
        rw [HU.out, HUN.out, drop_end s s.size (by omega)]
        rfl
      go_wp2
      refine bodyPost_ret (v := .tuple #[.agg #[.int .i64 0, .int .i64 0, .string ⟨#[]⟩], .int .i64 0]) (by simp [results, Try.results25, go_sem, r0, r1, r2]) rfl ?_
      exact ⟨HBL.out _ HO.out.2 _ _ _, Or.inr ⟨HN.out, rfl⟩⟩
theorem first_any (s : ByteArray) (h0 : 0 < s.size) (h140 : s.size ≤ 140) (w : World) : Calls Try.prog 25 #[.string s] w (FirstOut w s) := by
  by_cases h1 : s[0].toNat = 1
  · exact first1 s h0 h1 w
  by_cases h2 : s[0].toNat = 2
  · exact first2 s h0 h2 w
  by_cases h3 : s[0].toNat = 3
  · exact first3 s h0 h3 w
  by_cases h4 : s[0].toNat = 4
  · by_cases h9 : 9 ≤ s.size
    · exact first4 s h0 h4 h9 w
    · exact first4s s h0 h4 h9 w
  by_cases h5 : s[0].toNat = 5
  · exact first5 s h0 h5 h140 w
  exact firstx s h0 _ rfl h1 h2 h3 h4 h5 w
end Go.Proofs.Ytjhlfgomoookjaa
