/-
  THE WALKS OF THE document's One and Encode.
-/
import Derived.Test.YtjhlfgomoookjaaWalkC
namespace Go.Proofs.Ytjhlfgomoookjaa
open Go.RowKit Go.Sort
attribute [local go_sem high] run_eqv run_neqv run_eqs

/-- what One answers -/
def OneOut (w : World) (l : List Nat) (e : Ending) (w' : World) : Prop := e = .returned (.string (bs l)) ∧ Below w.heap.size w w'
set_option maxRecDepth 100000 in
set_option maxHeartbeats 1000000 in
theorem rone0 (w : World) (n : Int) (s : ByteArray) : Calls Try.prog 21 #[.agg #[.int .i64 0, .int .i64 n, .string s]] w (OneOut w [1]) := by
  go_enter Try.func21, Try.ntmps21
  go_wp2
  go_ret
  exact ⟨rfl, (Below.refl _ _).alloc (Nat.le_refl _) _⟩
set_option maxRecDepth 100000 in
set_option maxHeartbeats 1000000 in
theorem rone30 (w : World) (s : ByteArray) : Calls Try.prog 21 #[.agg #[.int .i64 3, .int .i64 0, .string s]] w (OneOut w [2]) := by
  go_enter Try.func21, Try.ntmps21
  go_wp2
  go_ret
  exact ⟨rfl, (Below.refl _ _).alloc (Nat.le_refl _) _⟩
set_option maxRecDepth 100000 in
set_option maxHeartbeats 1000000 in
theorem rone31 (w : World) (s : ByteArray) : Calls Try.prog 21 #[.agg #[.int .i64 3, .int .i64 1, .string s]] w (OneOut w [3]) := by
  go_enter Try.func21, Try.ntmps21
  go_wp2
  go_ret
  exact ⟨rfl, (Below.refl _ _).alloc (Nat.le_refl _) _⟩

/-- the bytes as they are filled in from behind -/
def filled (m c : Nat) : List Nat := 4 :: (List.replicate c 0 ++ be (8 - c) m)
theorem filled_len (m c : Nat) (hc : c ≤ 8) : (filled m c).length = 9 := by simp [filled, be_len]; omega
theorem filled_lt (m c : Nat) : ∀ x ∈ filled m c, x < 256 := by
  intro x hx
  simp only [filled, List.mem_cons, List.mem_append, List.mem_replicate] at hx
  rcases hx with rfl | ⟨_, rfl⟩ | hx
  · omega
  · omega
  · exact be_lt _ _ _ hx
theorem filled_next (m c : Nat) (hc : c + 1 ≤ 8) : (filled m (c + 1)).set (c + 1) (m / 256 ^ (8 - (c + 1)) % 256) = filled m c := by
  have e1 : 8 - c = (8 - (c + 1)) + 1 := by omega
  simp only [filled, List.set_cons_succ]
  congr 1
  rw [e1, be, List.replicate_succ', List.append_assoc, List.set_append_right _ _ (by simp)]
  simp
theorem wrap_top (n : Int) (h1 : -9223372036854775808 ≤ n) (h2 : n ≤ 9223372036854775807) : IntKind.u64.wrap (IntKind.u64.wrap n + 9223372036854775808) = (((n + 9223372036854775808).toNat : Nat) : Int) := by
  simp only [IntKind.wrap_u64]
  omega
theorem mod_wrap (x : Nat) : IntKind.u8.wrap ((x : Int) % 256) = ((x % 256 : Nat) : Int) := by simp only [IntKind.wrap_u8]; omega
set_option maxRecDepth 100000 in
set_option maxHeartbeats 1000000 in
theorem rone1 (w : World) (n : Int) (h1 : -9223372036854775808 ≤ n) (h2 : n ≤ 9223372036854775807) (s : ByteArray) :
    Calls Try.prog 21 #[.agg #[.int .i64 1, .int .i64 n, .string s]] w (OneOut w (4 :: be 8 (n + 9223372036854775808).toNat)) := by
  have hW := wrap_top n h1 h2
  generalize hm : (n + 9223372036854775808).toNat = m at hW ⊢
  have hmb : m < 18446744073709551616 := by omega
  clear hm h1 h2
  have hb0 := Below.refl w.heap.size w
  go_enter Try.func21, Try.ntmps21
  go_wp2
  go_loopw [3, 5] (fun u i wr => ∃ c : Nat, c ≤ 8 ∧ i = .int .i64 (c : Int) ∧ u = .int .u64 ((m / 256 ^ (8 - c) : Nat) : Int) ∧ Blk wr (w.heap.size + 1) 5 (u8s (filled m c)).toArray ∧ Below w.heap.size w wr) (fun _ i _ => (intOf i).toNat)
  case atStart =>
    refine ⟨8, by omega, rfl, by simp, ?_, ((Below.refl _ w).alloc (Nat.le_refl _) _).alloc (by simp) _⟩
    have h8 := Blk.new (w.alloc (.cells #[.int .i64 1, .int .i64 n, .string s] 34)) 5 (u8s (filled m 8)).toArray
    rw [show (w.alloc (.cells #[.int .i64 1, .int .i64 n, .string s] 34)).heap.size = w.heap.size + 1 by simp] at h8
    exact h8
  case round =>
    obtain ⟨c, hc, rfl, rfl, hblk, hbel⟩ := hrel
    have HB := Lib.hid hblk
    have HL := Lib.hid hbel
    clear hblk hbel
    have hfl := filled_len m c hc
    rcases c with _ | q
    · have hcv := run_conv (fun _ => True) (some ⟨w.heap.size + 1, 0, none⟩) 9 9 (filled m 0) _ (RB.of_blk HB.out trivial (filled_lt m 0) hfl)
      clear hfl
      go_wp2
      go_ret
      exact ⟨rfl, HL.out⟩
    · have hc0 : wr.cell? ⟨w.heap.size + 1, q + 1, none⟩ = some (.int .u8 (((filled m (q + 1)).getD (q + 1) 0 : Nat) : Int)) := by
        rw [HB.out.cell]
        simpa using u8s_at (filled m (q + 1)) (q + 1) (by omega)
      have hf0 := HB.out.frozen (q + 1)
      have hg0 : decide (((q + 1 : Nat) : Int) > 0) = true := decide_eq_true (by omega)
      have hq1 : q + 1 < 9 := by omega
      have HN := Lib.hid (filled_next m q (by omega))
      have hxb : m / 256 ^ (8 - (q + 1)) < 18446744073709551616 := Nat.lt_of_le_of_lt (Nat.div_le_self _ _) hmb
      have hpw : m / 256 ^ (8 - (q + 1)) / 256 = m / 256 ^ (8 - q) := by
        rw [Nat.div_div_eq_div_mul, ← Nat.pow_succ]
        congr 2
        omega
      obtain ⟨x, hx⟩ : ∃ x, x = m / 256 ^ (8 - (q + 1)) := ⟨_, rfl⟩
      rw [← hx] at hxb hpw HN ⊢
      have hy : IntKind.u8.wrap ((x : Int) % 256) = ((x % 256 : Nat) : Int) := mod_wrap x
      have hdv : IntKind.u64.wrap ((x : Int) / 256) = ((x / 256 : Nat) : Int) := by rw [IntKind.wrap_u64]; omega
      have HP := Lib.hid hpw
      have HS := Lib.hid (HB.out.set_ (q + 1) (.int .u8 ((x : Int) % 256)))
      have HL2 := Lib.hid (HL.out.setCell (p := ⟨w.heap.size + 1, q + 1, none⟩) (by simp) (.int .u8 ((x : Int) % 256)))
      clear hx hpw hfl
      go_wp2
      go_roundw
      case rel =>
        refine ⟨q, by omega, by go_num, by rw [← HP.out]; simp, ?_, ?_⟩
        · have hs := HS.out
          have e : (x : Int) % 256 = ((x % 256 : Nat) : Int) := by omega
          rw [e] at hs
          rw [← HN.out]
          have e2 : (u8s (filled m (q + 1))).toArray.setIfInBounds (q + 1) (.int .u8 ((x % 256 : Nat) : Int)) = (u8s ((filled m (q + 1)).set (q + 1) (x % 256))).toArray := by simp [u8s, List.map_set]
          rw [e2] at hs
          simpa using hs
        · exact HL2.out
      case measure => simp [intOf]

set_option maxRecDepth 100000 in
set_option maxHeartbeats 2000000 in
theorem rone2 (w : World) (n : Int) (s : ByteArray) (hs : s.size ≤ 64) : Calls Try.prog 21 #[.agg #[.int .i64 2, .int .i64 n, .string s]] w (OneOut w (5 :: (tx (sb s) ++ [0, 1]))) := by
  obtain ⟨W, hW⟩ : ∃ W, W = w.alloc (.cells #[.int .i64 2, .int .i64 n, .string s] 34) := ⟨_, rfl⟩
  have hv : VB W w.heap.size 2 n s := by rw [hW]; exact VB.new w 2 n s
  have hbl : Below w.heap.size w W := by rw [hW]; exact (Below.refl _ _).alloc (Nat.le_refl _) _
  have hsz : W.heap.size = w.heap.size + 1 := by rw [hW]; simp
  have H5 : Own W (W.alloc (.cells #[.int .u8 5] 5)) (.slice (some ⟨w.heap.size + 1, 0, none⟩) 1 1) [5] := by
    refine ⟨⟨⟨rfl, Or.inr ⟨W.heap.size, 1, #[.int .u8 5], by rw [hsz]; rfl, Nat.zero_le _, Blk.new W 5 _, Nat.le_refl _, by simp [maxLen], rfl, rfl⟩⟩, by simp, ?_⟩, (Below.refl _ _).alloc (Nat.le_refl _) _⟩
    intro k hk
    simp [Value.ownBlock] at hk
    omega
  have HO := Lib.hid H5
  have HV := Lib.hid hv
  have HBL := Lib.hid hbl
  obtain ⟨c0, c1, c2⟩ := hv.cells
  clear H5 hv hbl
  go_enter Try.func21, Try.ntmps21
  go_wp2
  go_loopw [6, 7] (fun v0 i wr => ∃ (j : Nat) (u : Value), u = v0 ∧ j ≤ s.size ∧ i = .int .i64 (j : Int) ∧ Own W wr u (5 :: tx ((sb s).take j))) (fun _ i _ => s.size - (intOf i).toNat)
  case atStart => exact ⟨0, _, rfl, by omega, rfl, by rw [← hW]; simpa [tx] using HO.out⟩
  case round =>
    obtain ⟨j, u, rfl, hj, rfl, ho⟩ := hrel
    have hlen : (5 :: tx ((sb s).take j)).length ≤ 200 := by
      have := tx_len ((sb s).take j)
      simp at this ⊢
      omega
    obtain ⟨b0, b1, b2⟩ := VB.cells (Blk.below HV.out ho.2 (by omega))
    have HO := Lib.hid ho
    clear ho c0 c1 c2
    by_cases hlt : j < s.size
    · have hby : s[j].toNat < 256 := s[j].toNat_lt
      have HE := Lib.hid (tx_at s j hlt)
      by_cases hz : s[j].toNat = 0
      · have hz2 : (((s[j].toNat : Nat) : Int) == 0) = true := by simpa using hz
        have hlen2 : (5 :: tx ((sb s).take j) ++ [0]).length ≤ 201 := by simp only [List.length_append, List.length_singleton] at hlen ⊢; omega
        go_wp2_with (first
          | (at_builtin; refine wpList_app rfl (.tmp 52) (.tmp 57) rfl u _ (5 :: tx ((sb s).take j)) rfl (HO.out.alloc _).1 (fun _ => True) (some ⟨wr.heap.size, 0, none⟩) 1 1 [0] rfl (one_of _ _ _ (by rfl) (by omega)) (by omega) ?_; intro v1 w1 hown hgrow; have HS := Lib.hid (Own.step (HO.out.alloc _) hgrow hown); obtain ⟨d0, d1, d2⟩ := VB.cells (Blk.below HV.out HS.out.2 (by omega)); clear hown hgrow)
          | (at_builtin; go_must (refine wpList_app rfl (.tmp 64) (.tmp 65) rfl v1 _ (5 :: tx ((sb s).take j) ++ [0]) rfl (HS.out.alloc _).1 (fun _ => True) (some ⟨w1.heap.size, 0, none⟩) 1 1 [255] rfl (one_of _ _ _ (by rfl) (by omega)) (by omega) ?_); intro v2 w2 hown hgrow; have HS2 := Lib.hid (Own.step (HS.out.alloc _) hgrow hown); clear hown hgrow))
        go_roundw
        case rel =>
          refine ⟨j + 1, _, rfl, by omega, by go_num, ?_⟩
          have := HS2.out
          rw [HE.out, if_pos hz]
          simpa using this
        case measure => simp [intOf]; omega
      · have hz2 : (((s[j].toNat : Nat) : Int) == 0) = false := by simpa using hz
        go_wp2_with (at_builtin; go_must (refine wpList_app rfl (.tmp 52) (.tmp 57) rfl u _ (5 :: tx ((sb s).take j)) rfl (HO.out.alloc _).1 (fun _ => True) (some ⟨wr.heap.size, 0, none⟩) 1 1 [s[j].toNat] rfl (one_of _ _ _ (by rfl) (by omega)) (by omega) ?_); intro v1 w1 hown hgrow; have HS := Lib.hid (Own.step (HO.out.alloc _) hgrow hown); obtain ⟨d0, d1, d2⟩ := VB.cells (Blk.below HV.out HS.out.2 (by omega)); clear hown hgrow)
        go_roundw
        case rel =>
          refine ⟨j + 1, _, rfl, by omega, by go_num, ?_⟩
          rw [HE.out, if_neg hz]
          exact HS.out
        case measure => simp [intOf]; omega
    · obtain rfl : j = s.size := by omega
      have hfull : (sb s).take s.size = sb s := List.take_of_length_le (by rw [sb_len]; omega)
      rw [hfull] at HO hlen
      go_wp2_with (at_builtin; go_must (refine wpList_app rfl (.tmp 67) (.tmp 68) rfl u _ (5 :: tx (sb s)) rfl (HO.out.alloc _).1 (fun _ => True) (some ⟨wr.heap.size, 0, none⟩) 2 2 [0, 1] rfl (two_of _ 0 1 (by omega) (by omega)) (by omega) ?_); intro v1 w1 hown hgrow; have HS := Lib.hid (Own.step (HO.out.alloc _) hgrow hown); have ho1 := HS.out.1; generalize (5 :: tx (sb s) ++ [0, 1]).length = N9 at ho1; obtain ⟨A9, c9, rfl, _, _, hr9⟩ := ho1.reads; have hcv := run_conv _ A9 _ c9 _ _ hr9; clear hown hgrow ho1 hr9)
      go_ret
      exact ⟨rfl, HBL.out.trans (HS.out.2.mono (by omega))⟩
theorem rone_any (v : V) (hm : v.may = true) (hn : N64 v) (w : World) : Calls Try.prog 21 #[.agg #[.int .i64 v.k, .int .i64 v.n, .string v.s]] w (OneOut w (one v)) := by
  obtain ⟨k, n, s⟩ := v
  obtain ⟨h1, h2⟩ := hn
  simp only at h1 h2 ⊢
  replace hm : may k n s = true := hm
  have hk := may_kind hm
  have hk4 : k = 0 ∨ k = 1 ∨ k = 2 ∨ k = 3 := by omega
  rcases hk4 with rfl | rfl | rfl | rfl
  · exact rone0 w n s
  · exact rone1 w n h1 h2 s
  · refine rone2 w n s ?_
    simp [may] at hm
    omega
  · simp [may] at hm
    rcases hm.2 with rfl | rfl
    · exact rone30 w s
    · exact rone31 w s

/-! ### the document's Encode -/
theorem bs_append (l m : List Nat) : bs l ++ bs m = bs (l ++ m) := by
  apply toList_inj
  rw [ByteArray.toList_eq, bs_toList]
  unfold bs
  simp
set_option maxRecDepth 100000 in
set_option maxHeartbeats 2000000 in
theorem rencode_any (A : Option Addr) (n c : Nat) (vs : List V) (w : World) (h : RV w A n vs) : Calls Try.prog 9 #[.slice A n c] w (Enc w vs) := by
  have hlen := h.1
  have hnb := h.2.2.1
  have H := Lib.hid h
  clear h
  by_cases h16 : 16 < n
  · obtain ⟨e1, e2⟩ := enc_long (vs := vs) (by omega)
    unfold Enc
    rw [e1, e2]
    clear H hlen e1 e2
    go_enter Try.func9, Try.ntmps9
    go_wp2
    go_ret2
    exact ⟨rfl, Below.refl _ _⟩
  · have HL := Lib.hid hlen
    clear hlen
    go_enter Try.func9, Try.ntmps9
    go_wp2
    go_loopw [4, 5] (fun u i wr => ∃ k : Nat, k ≤ n ∧ i = .int .i64 (k : Int) ∧ u = .string (bs (key (vs.take k))) ∧ (vs.take k).all V.may = true ∧ Below w.heap.size w wr) (fun _ i _ => n - (intOf i).toNat)
    case atStart => exact ⟨0, by omega, rfl, rfl, rfl, Below.refl _ _⟩
    case round =>
      obtain ⟨k, hk, rfl, rfl, hall, hbel⟩ := hrel
      have HA := Lib.hid hall
      have HB := Lib.hid hbel
      have hsz := hbel.size
      have hkl : (bs (key (vs.take k))).size ≤ 131 * 16 := by
        rw [bs_size]
        refine Nat.le_trans (key_len _ hall) (Nat.mul_le_mul_left _ ?_)
        simp
        omega
      clear hall hbel
      by_cases hlt : k < n
      · obtain ⟨g, o, v, rfl, hg, hv, hok, b0, b1, b2⟩ := (H.out.below HB.out).at_ hlt
        have HBL := Lib.hid (fun (W : World) (h : Below wr.heap.size wr W) (i : Nat) => h.cell (p := ⟨g, i, none⟩) hg)
        have HV := Lib.hid hv
        by_cases hm : v.may = true
        · have HO := Lib.hid (rone_any v hm hok.n)
          have hol := (one_len v hm).1
          have hs := hok.s
          have HC := Lib.hid (rmay_any v.k v.n v.s hs)
          have HM := Lib.hid hm
          rw [show may v.k v.n v.s = true from hm] at HC
          have hkn := key_next hv
          have HK := Lib.hid (show bs (key (vs.take k)) ++ bs (one v) = bs (key (vs.take (k + 1))) by rw [hkn, bs_append])
          have hos : (bs (one v)).size ≤ 131 := by rw [bs_size]; exact hol
          have HN := Lib.hid (all_next hv HA.out hm)
          unfold OneOut at HO
          generalize hkk : bs (key (vs.take k)) = S at HK hkl ⊢
          generalize hoo : bs (one v) = O at HK HO hos
          obtain ⟨vk, vn, vs'⟩ := v
          simp only at b0 b1 b2 HC HO
          clear hv hok hm hol hs hkn hkk hoo HM
          go_wp2_with fail
          refine (HC.out _).mono ?_
          rintro e w1 ⟨rfl, hb⟩
          have d0 := (HBL.out _ hb (o + k * 3)).trans b0
          have d1 := (HBL.out _ hb (o + k * 3 + 1)).trans b1
          have d2 := (HBL.out _ hb (o + k * 3 + 2)).trans b2
          have HB2 := Lib.hid (below_trans HB.out hb)
          clear hb b0 b1 b2
          go_wp2_with fail
          refine (HO.out _).mono ?_
          rintro e w2 ⟨rfl, hb⟩
          have HB3 := Lib.hid (below_trans HB2.out hb)
          clear hb
          go_wp2
          go_roundw
          case rel => exact ⟨k + 1, by omega, by go_num, by rw [← HK.out], HN.out, HB3.out⟩
          case measure => simp [intOf]; omega
        · have hm : v.may = false := by simpa using hm
          obtain ⟨e1, e2⟩ := enc_form (vs := vs) (by rw [HL.out]; exact h16) (all_not hv hm)
          have HC := Lib.hid (rmay_any v.k v.n v.s hok.s)
          rw [show may v.k v.n v.s = false from hm] at HC
          obtain ⟨vk, vn, vs'⟩ := v
          simp only at b0 b1 b2 HC
          go_wp2_with fail
          refine (HC.out _).mono ?_
          rintro e w1 ⟨rfl, hb⟩
          go_wp2
          go_ret2
          exact ⟨by rw [e1, e2]; rfl, below_trans HB.out hb⟩
      · obtain rfl : k = n := by omega
        have hall := HA.out
        rw [List.take_of_length_le (by rw [HL.out]; omega)] at hall hkl ⊢
        have HW := Lib.hid hall
        clear hall HA
        by_cases h140 : 140 < (key vs).length
        · obtain ⟨e1, e2⟩ := enc_wide (vs := vs) (by rw [HL.out]; exact h16) HW.out h140
          have hz := bs_size (key vs)
          go_wp2
          go_ret2
          exact ⟨by rw [e1, e2]; rfl, HB.out⟩
        · obtain ⟨e1, e2⟩ := enc_ok (vs := vs) (by rw [HL.out]; exact h16) HW.out h140
          have hz := bs_size (key vs)
          go_wp2
          go_ret2
          exact ⟨by rw [e1, e2]; rfl, HB.out⟩
end Go.Proofs.Ytjhlfgomoookjaa
