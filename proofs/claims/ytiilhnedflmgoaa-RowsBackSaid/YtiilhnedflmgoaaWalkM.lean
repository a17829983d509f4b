/-
  THE WALKS OF THE document's small, One, Encode.
-/
import Derived.Test.YtiilhnedflmgoaaWalkL
namespace Go.Proofs.Ytiilhnedflmgoaa
open Go.RowKit Go.Sort

set_option maxRecDepth 100000 in
theorem small_any (w : World) (x : Nat) (hx : x < 18446744073709551616) :
    Calls Try.prog 58 #[.int .u64 (x : Int)] w (New w (Cd.vi x)) := by
  have h10 := Cd.vi_len10 x hx
  go_enter Try.func58, Try.ntmps58
  go_wp2
  go_loopw [0, 3] (fun y0 v0 wr => ∃ (y : Nat) (v : Value) (l : List Nat), v = v0 ∧ y0 = .int .u64 (y : Int) ∧ y ≤ x ∧ Own w wr v l ∧ l ++ Cd.vi y = Cd.vi x) (fun y _ _ => (intOf y).toNat)
  case atStart => exact ⟨x, _, [], rfl, rfl, Nat.le_refl _, Own.nil_ w, rfl⟩
  case round =>
    obtain ⟨y, v, l, rfl, rfl, hy, ho, hv⟩ := hrel
    have hn : l.length ≤ 10 := by
      have := congrArg List.length hv
      simp only [List.length_append] at this
      omega
    have HO := Lib.hid ho
    have HV := Lib.hid hv
    clear ho hv
    by_cases hlt : 128 ≤ y
    · go_wp2_with (at_builtin; go_must (refine wpList_app rfl (.tmp 6) (.tmp 11) rfl v _ l rfl (HO.out.alloc _).1 (fun _ => True) (some ⟨wr.heap.size, 0, none⟩) 1 1 [128 + y % 128] rfl (one_of _ _ _ (by omega) (by omega)) (by omega) ?_); intro v1 w1 hown hgrow; have HS := Lib.hid (Own.step (HO.out.alloc _) hgrow hown); clear hown hgrow)
      go_roundw
      case rel =>
        refine ⟨y / 128, _, l ++ [128 + y % 128], rfl, by go_num, by omega, HS.out, ?_⟩
        have hv := HV.out
        rw [Cd.vi_big (by omega)] at hv
        rw [← hv]
        simp
      case measure => simp [intOf]; omega
    · go_wp2_with (at_builtin; go_must (refine wpList_app rfl (.tmp 15) (.tmp 18) rfl v _ l rfl (HO.out.alloc _).1 (fun _ => True) (some ⟨wr.heap.size, 0, none⟩) 1 1 [y] rfl (one_of _ _ _ (by omega) (by omega)) (by omega) ?_); intro v1 w1 hown hgrow; have HS := Lib.hid (Own.step (HO.out.alloc _) hgrow hown); clear hown hgrow)
      go_ret
      have hv := HV.out
      rw [Cd.vi_small (by omega)] at hv
      rw [← hv]
      exact HS.out.new
theorem Ow.fresh (w : World) (S : Nat → Prop) (l : List Nat) (n b : Nat) (cs : Array Value) (hb : b = w.heap.size) (hl : l.length = n) (hn : n ≤ 1048576) (hx : ∀ x ∈ l, x < 256) (hS : S b) (hcs : cs = (u8s l).toArray) : Ow (w.alloc (.cells cs 5)) S (.slice (some ⟨b, 0, none⟩) n n) n l := by
  subst hb hl hcs
  refine ⟨⟨by simp [u8s], Or.inr ⟨w.heap.size, l.length, _, rfl, Nat.zero_le _, heap_alloc_new w _, Nat.le_refl _, by simp only [maxLen]; omega, by simp [u8s], ?_⟩⟩, hx, fun k hk => ?_⟩
  · rw [List.take_of_length_le]
    simp [u8s]
  · simp [Value.ownBlock] at hk
    subst hk
    exact hS
theorem Own.up {w wr w1 : World} {v : Value} {l : List Nat} (h : Own w wr v l) (hb : Below wr.heap.size wr w1) : Own w w1 v l := by
  have hs := h.2.size
  exact ⟨(Ow.keep (h.1.mono (T := fun b => w.heap.size ≤ b) fun _ _ hb => hb) (Fr.of_below hb (fun _ => False)) fun _ _ hh => hh.elim), below_trans h.2 hb⟩
theorem New.of_below {w w' : World} {a : World} {l : List Nat} {e : Ending} (h : New w l e w') (hb : Below a.heap.size a w) : New a l e w' := by
  obtain ⟨v, rfl, ho, hb2⟩ := h
  exact ⟨v, rfl, ho.mono fun b _ hh => by have := hb.size; omega, below_trans hb hb2⟩

set_option maxRecDepth 100000 in
set_option maxHeartbeats 2000000 in
theorem rone_any (k n : Int) (s : ByteArray) (w : World) (hm : may k n s = true) (h0 : k ≠ 0) (h1 : -9223372036854775808 ≤ n) (h2 : n ≤ 9223372036854775807) :
    Calls Try.prog 33 #[.agg #[.int .i64 k, .int .i64 n, .string s]] w (New w (one ⟨k, n, s⟩)) := by
  have hk := may_kind hm
  have hk3 : k = 1 ∨ k = 2 ∨ k = 3 := by omega
  have HB := Lib.hid ((Below.refl _ w).alloc (Nat.le_refl _) (.cells #[.int .i64 k, .int .i64 n, .string s] 40))
  clear hk h0
  rcases hk3 with rfl | rfl | rfl
  · by_cases hneg : n < 0
    · have hd : decide (n < 0) = true := decide_eq_true hneg
      have hz : Cd.zz n = 2 * (-n - 1).toNat + 1 := by unfold Cd.zz; rw [if_neg (by omega)]
      have HC := Lib.hid (fun W => small_any W (Cd.zz n) (Cd.zz_lt n h1 h2))
      have e1 : one ⟨1, n, s⟩ = Cd.vi (Cd.zz n) := one1 rfl
      rw [e1]
      obtain ⟨z, hz2⟩ : ∃ z : Nat, z = Cd.zz n := ⟨_, rfl⟩
      rw [← hz2] at HC hz ⊢
      have q1 : wrap64 (n + 1) = n + 1 := by simp only [wrap64]; omega
      have q2 : wrap64 (-(n + 1)) = -(n + 1) := by simp only [wrap64]; omega
      have q3 : IntKind.u64.wrap (-(n + 1)) = -(n + 1) := by simp only [IntKind.wrap_u64]; omega
      have q4 : IntKind.u64.wrap (2 * -(n + 1)) = 2 * -(n + 1) := by simp only [IntKind.wrap_u64]; omega
      have q5 : IntKind.u64.wrap (2 * -(n + 1) + 1) = (z : Int) := by simp only [IntKind.wrap_u64]; omega
      clear hm e1 hz2 hz hneg
      go_enter Try.func33, Try.ntmps33
      go_wp2_with (go_at_call 58; refine (HC.out _).mono ?_; rintro e w1 hnew; obtain ⟨v1, rfl, ho1, hb1⟩ := hnew.of_below HB.out; have HO1 := Lib.hid ho1; have HB1 := Lib.hid hb1; clear ho1 hb1 hnew)
      go_ret
      exact ⟨_, rfl, HO1.out, HB1.out⟩
    · have hd : decide (n < 0) = false := decide_eq_false hneg
      have hz : Cd.zz n = 2 * n.toNat := by unfold Cd.zz; rw [if_pos (by omega)]
      have HC := Lib.hid (fun W => small_any W (Cd.zz n) (Cd.zz_lt n h1 h2))
      have e1 : one ⟨1, n, s⟩ = Cd.vi (Cd.zz n) := one1 rfl
      rw [e1]
      obtain ⟨z, hz2⟩ : ∃ z : Nat, z = Cd.zz n := ⟨_, rfl⟩
      rw [← hz2] at HC hz ⊢
      have q3 : IntKind.u64.wrap n = n := by simp only [IntKind.wrap_u64]; omega
      have q4 : IntKind.u64.wrap (2 * n) = (z : Int) := by simp only [IntKind.wrap_u64]; omega
      clear hm e1 hz2 hz hneg
      go_enter Try.func33, Try.ntmps33
      go_wp2_with (go_at_call 58; refine (HC.out _).mono ?_; rintro e w1 hnew; obtain ⟨v1, rfl, ho1, hb1⟩ := hnew.of_below HB.out; have HO1 := Lib.hid ho1; have HB1 := Lib.hid hb1; clear ho1 hb1 hnew)
      go_ret
      exact ⟨_, rfl, HO1.out, HB1.out⟩
  · have hs : s.size ≤ 64 := by simp [may] at hm; omega
    have HC := Lib.hid (fun W => small_any W s.size (by omega))
    have e1 : one ⟨2, n, s⟩ = Cd.vi s.size ++ sb s := by rw [one2 rfl]; simp [Cd.tx, sb_len]
    have hvl := Cd.vi_len10 s.size (by omega)
    have hb0 := Box.new w 2 n s
    have HX := Lib.hid (fun (W : World) (h : Below _ _ W) => hb0.up h)
    rw [e1]
    clear hm e1 hb0
    go_enter Try.func33, Try.ntmps33
    go_wp2_with (first
      | (go_at_call 58; refine (HC.out _).mono ?_; rintro e w1 hnew; have hbb := hnew.elim fun v h => h.2.2; obtain ⟨b0, b1, b2⟩ := HX.out _ hbb; simp only [Nat.zero_add] at b0 b1 b2; obtain ⟨v1, rfl, ho1, hb1⟩ := hnew.of_below HB.out; have HO1 := Lib.hid (show Own w w1 v1 _ from ⟨ho1, hb1⟩); clear ho1 hb1 hnew hbb)
      | (at_builtin; go_must (refine wpList_app_str rfl (.tmp 19) (.tmp 21) rfl v1 _ _ rfl HO1.out.1 s (sb s) rfl (sb_cells s) (sb_lt s) (by omega) ?_); intro v2 w2 hown hgrow; have HS := Lib.hid (Own.step HO1.out hgrow hown); clear hown hgrow))
    go_ret
    exact HS.out.new
  · have hn01 : 0 ≤ n ∧ n < 256 := by simp [may] at hm; omega
    have e1 : one ⟨3, n, s⟩ = [n.toNat] := one3 rfl
    rw [e1]
    obtain ⟨q, rfl⟩ : ∃ q : Nat, n = (q : Int) := ⟨n.toNat, by omega⟩
    have hq : q < 256 := by omega
    have hw : IntKind.u8.wrap (q : Int) = (q : Int) := by simp only [IntKind.wrap_u8]; omega
    have he : ((q : Int)).toNat = q := by omega
    rw [he]
    clear hm e1 hn01 he
    go_enter Try.func33, Try.ntmps33
    go_wp2
    go_ret
    refine ⟨_, rfl, ?_, HB.out.alloc (by simp) _⟩
    exact Ow.fresh _ _ [q] 1 _ _ (by simp) rfl (by omega) (by simpa using hq) (by omega) rfl

/-! ### The document's Encode -/
theorem take_ones {vs : List V} {k : Nat} {v : V} (h : vs[k]? = some v) (h0 : v.k = 0) : ones (vs.take (k + 1)) = ones (vs.take k) := by
  rw [ones_next h, one0 h0, List.append_nil]
set_option maxRecDepth 100000 in
set_option maxHeartbeats 8000000 in
theorem rencode_any (A : Option Addr) (n c : Nat) (cs : List C) (B : Option Addr) (m d : Nat) (vs : List V) (w : World) (ha : RC w A n cs) (hb : RV w B m vs) :
    Calls Try.prog 16 #[.slice A n c, .slice B m d] w (Enc w cs vs) := by
  have hlb := Lib.hid hb.1
  have hok := Lib.hid hb.2.1
  have HB := Lib.hid hb
  have HF := Lib.hid (rfits_any A n c cs B m d vs w ha hb)
  unfold Enc
  by_cases h0 : fitsE cs vs = 0
  · obtain ⟨hmc, hlen, hf2⟩ := fitsE_zero h0
    have hmay := Lib.hid (fits2_may hlen hf2)
    have hm16 : m ≤ 16 := by
      have := ((mayC_iff cs).1 hmc).2.1
      rw [← hlb.out, hlen]
      exact this
    have H0 := Lib.hid h0
    rw [h0] at HF
    have hmb : mB m ≤ 3 := by unfold mB; omega
    have hq8 : ∀ k, k < m → k / 8 < mB m := fun k hk => by unfold mB; omega
    have hmB : (m + 7) / 8 = mB m := rfl
    have e7 : ((m : Int) + 7) / 8 = ((mB m : Nat) : Int) := by unfold mB; omega
    have e7t : ((m : Int) + 7).tdiv 8 = ((mB m : Nat) : Int) := by rw [Int.tdiv_eq_ediv_of_nonneg (by omega)]; exact e7
    have HZ := Lib.hid (fun (u : World) (S : Nat → Prop) (hS : S u.heap.size) => Ow.zeros u S (mB m) (by omega) hS)
    have hm0 : Hid (mk vs 0 = List.replicate (mB m) 0) := by show _ = _; rw [← hlb.out]; rfl
    have HME : Hid (mB vs.length = mB m) := by show _ = _; rw [hlb.out]
    have HMK := Lib.hid (fun u => run_mk (mB m) (by omega) u)
    generalize mB m = M at *
    clear ha hb h0 hmc hlen hf2 hmB
    go_enter Try.func16, Try.ntmps16
    go_wp2_with fail
    refine HF.out.mono ?_
    rintro e w1 ⟨rfl, hb1⟩
    have HW1 := Lib.hid hb1
    have hsz1 := hb1.size
    have hmk := HMK.out w1
    clear hb1 HF HMK
    go_wp2
    go_loopw [8] (fun i wr => ∃ k : Nat, k ≤ m ∧ i = .int .i64 (k : Int) ∧ Ow wr (fun b => w.heap.size ≤ b) (.slice (some ⟨w1.heap.size, 0, none⟩) M M) M (mk vs k) ∧ Below w.heap.size w wr) (fun i _ => m - (intOf i).toNat)
    case atStart => exact ⟨0, by omega, rfl, by rw [hm0.out]; exact HZ.out w1 _ hsz1, HW1.out.alloc hsz1 _⟩
    case round =>
      obtain ⟨k, hk, rfl, ho, hbel⟩ := hrel
      have HO := Lib.hid ho
      have HW := Lib.hid hbel
      have hsz := hbel.size
      clear ho hbel HZ hmk
      by_cases hlt : k < m
      · obtain ⟨g, o, v, rfl, hg, hv, hvok, b0, b1, b2⟩ := (HB.out.below HW.out).at_ hlt
        have hst := Lib.hid (mk_step hv)
        obtain ⟨vk, vn, vs'⟩ := v
        simp only at b0 b1 b2 hst
        clear hv hvok
        by_cases h0 : vk = 0
        · subst h0
          obtain ⟨q, hq⟩ : ∃ q, q = k / 8 := ⟨_, rfl⟩
          have hqm : q < M := by rw [hq]; exact hq8 k hlt
          obtain ⟨g2, cap, e, hS, hc, hf, hset⟩ := HO.out.cell_at hqm
          injection e with e1 e2 e3
          injection e1 with e1
          injection e1 with e1
          subst e1 e3
          have hx := mk_low vs k (by rw [hlb.out]; omega)
          rw [← hq] at hx
          have hx8 := mk_byte vs k q
          have hy := pow8 k
          have h1 : (k : Int) / 8 = (q : Int) := by omega
          have h2 : (k : Int).tdiv 8 = (q : Int) := by rw [quo8, hq]
          have hwq : IntKind.i64.wrap (q : Int) = (q : Int) := IntWalk.i64_in _ (by omega)
          have hcd : wr.drew.cell? ⟨w1.heap.size, q, none⟩ = _ := hc
          have hfd : wr.drew.frozen? ⟨w1.heap.size, q, none⟩ = false := hf
          have HST : Hid (mk vs (k + 1) = (mk vs k).set q ((mk vs k).getD q 0 ||| 2 ^ (k % 8))) := by show _ = _; rw [hst.out, if_pos rfl, hq]
          have hlt2 : (mk vs k).getD q 0 ||| 2 ^ (k % 8) < 256 := Nat.or_lt_two_pow (n := 8) hx8 hy
          have hpo := plus_or _ _ hx
          have HSET := Lib.hid (hset _ hlt2)
          have hpw : (2 : Int) ^ (k % 8) = ((2 ^ (k % 8) : Nat) : Int) := by simp
          have hpw2 : (2 : Int) ^ (k % 8) % 256 = ((2 ^ (k % 8) : Nat) : Int) := by rw [hpw]; omega
          obtain ⟨y, hy2⟩ : ∃ y, y = 2 ^ (k % 8) := ⟨_, rfl⟩
          rw [← hy2] at hpo HST hlt2 HSET hpw hpw2 hx hy
          generalize (mk vs k).getD q 0 = x at *
          generalize x ||| y = z at *
          have hadd : IntKind.u8.wrap ((x : Int) + (y : Int)) = (z : Int) := by simp only [IntKind.wrap_u8]; omega
          have HBN := Lib.hid (HW.out.setCell (p := ⟨w1.heap.size, q, none⟩) hsz1 (.int .u8 (z : Int)))
          clear hset hq hx hx8 hq8 hpo hy2
          go_wp2_with fail
          go_region
          all_goals
            go_wp2
            go_roundw
            case rel => exact ⟨k + 1, by omega, by go_num, by rw [HST.out]; exact Ow.drew HSET.out, HBN.out.drew⟩
            case measure => simp [intOf]; omega
        · have hz1 : (vk == 0) = false := beq_false_of_ne h0
          have HST : Hid (mk vs (k + 1) = mk vs k) := by show _ = _; rw [hst.out, if_neg h0]
          go_wp2
          go_roundw
          case rel => exact ⟨k + 1, by omega, by go_num, by rw [HST.out]; exact HO.out, HW.out⟩
          case measure => simp [intOf]; omega
      · obtain rfl : k = m := by omega
        have HMO : Hid (Own w wr (.slice (some ⟨w1.heap.size, 0, none⟩) M M) (marks vs)) := by
          refine ⟨?_, HW.out⟩
          unfold marks
          rw [mk_len, HME.out, hlb.out]
          exact HO.out
        clear HO
        go_wp2
        go_loopw [7, 9] (fun u0 i wq => ∃ (j : Nat) (u : Value), u = u0 ∧ j ≤ k ∧ i = .int .i64 (j : Int) ∧ Own w wq u (marks vs ++ ones (vs.take j))) (fun _ i _ => k - (intOf i).toNat)
        case atStart => exact ⟨0, _, rfl, by omega, rfl, by simpa [ones] using HMO.out⟩
        case round =>
          obtain ⟨j, u, rfl, hj, rfl, ho⟩ := hrel
          have HO := Lib.hid ho
          have HW := Lib.hid ho.2
          clear ho
          have hll : (marks vs ++ ones (vs.take j)).length ≤ 3 + 74 * 16 := by
            have h1 := ones_len (vs.take j) (by have := hmay.out; rw [List.all_eq_true] at this ⊢; exact fun x hx => this x (List.mem_of_mem_take hx)) (fun v hv => (hok.out v (List.mem_of_mem_take hv)).n)
            have h2 : (vs.take j).length ≤ 16 := by simp; omega
            have h3 : (marks vs).length ≤ 3 := by rw [marks_len, hlb.out]; unfold mB; omega
            simp only [List.length_append]
            omega
          by_cases hlt2 : j < k
          · obtain ⟨g, o, v, rfl, hg, hv, hvok, b0, b1, b2⟩ := (HB.out.below HW.out).at_ hlt2
            have hm : v.may = true := List.all_eq_true.1 hmay.out v (List.mem_of_getElem? hv)
            have hn := Lib.hid (ones_next hv)
            have hol := one_len v hm hvok.n
            by_cases h0 : v.k = 0
            · have hn0 := Lib.hid (take_ones hv h0)
              obtain ⟨vk, vn, vt⟩ := v
              simp only at b0 b1 b2 h0
              subst h0
              clear hv hvok hm hol hn
              go_wp2
              go_roundw
              case rel => exact ⟨j + 1, _, rfl, by omega, by go_num, by rw [hn0.out]; exact HO.out⟩
              case measure => simp [intOf]; omega
            · have HC := Lib.hid (fun W => rone_any v.k v.n v.s W hm h0 hvok.n.1 hvok.n.2)
              obtain ⟨vk, vn, vt⟩ := v
              simp only at b0 b1 b2 h0 HC
              have hz1 : (vk == 0) = false := beq_false_of_ne h0
              have hz2 : (vk != 0) = true := bne_iff_ne.2 h0
              generalize one ⟨vk, vn, vt⟩ = l1 at *
              clear hv hvok hm h0
              go_wp2_with (first
                | (go_at_call 33; refine (HC.out _).mono ?_; rintro e w2 ⟨v2, rfl, ho2, hb2⟩; have HO2 := Lib.hid (Own.up HO.out hb2); obtain ⟨A2, c2, rfl, _, _, hr2⟩ := ho2.reads; have HR2 := Lib.hid hr2; clear ho2 hb2 hr2)
                | (at_builtin; go_must (refine wpList_app rfl (.tmp 58) (.tmp 63) rfl u _ _ rfl HO2.out.1 _ A2 _ c2 l1 rfl HR2.out (by omega) ?_); intro v3 w3 hown hgrow; have HS := Lib.hid (Own.step HO2.out hgrow hown); clear hown hgrow))
              go_roundw
              case rel => exact ⟨j + 1, _, rfl, by omega, by go_num, by rw [hn.out, ← List.append_assoc]; exact HS.out⟩
              case measure => simp [intOf]; omega
          · obtain rfl : j = k := by omega
            have hfull : vs.take j = vs := List.take_of_length_le (by rw [hlb.out]; omega)
            rw [hfull] at HO hll
            have HO : Hid (Own w _ u (txt vs)) := HO
            have hll : (txt vs).length ≤ 3 + 74 * 16 := hll
            obtain ⟨A8, c8, rfl, _, _, hr8⟩ := HO.out.1.reads
            have hcv := run_conv _ A8 _ c8 _ _ hr8
            clear hr8
            by_cases h160 : 160 < (txt vs).length
            · obtain ⟨e1, e2⟩ := enc_wide H0.out h160
              have E1 := Lib.hid e1
              have E2 := Lib.hid e2
              clear e1 e2
              have hd : decide ((((txt vs).length : Nat) : Int) > 160) = true := decide_eq_true (by omega)
              generalize (txt vs).length = L at *
              go_wp2
              go_ret2
              exact ⟨by rw [E1.out, E2.out]; rfl, HW.out⟩
            · obtain ⟨e1, e2⟩ := enc_good H0.out (by omega)
              have E1 := Lib.hid e1
              have E2 := Lib.hid e2
              clear e1 e2
              have hd : decide ((((txt vs).length : Nat) : Int) > 160) = false := decide_eq_false (by omega)
              obtain ⟨T, hT⟩ : ∃ T, T = txt vs := ⟨_, rfl⟩
              rw [← hT] at hcv hd E2 ⊢
              clear hT
              go_wp2
              go_ret2
              exact ⟨by rw [E1.out, E2.out]; rfl, HW.out⟩
  · obtain ⟨e1, e2⟩ := enc_unfit h0
    rw [e1, e2]
    generalize fitsE cs vs = z at *
    have hz : (z == 0) = false := beq_false_of_ne h0
    have hz2 : (z != 0) = true := bne_iff_ne.2 h0
    clear ha hb h0 e1 e2 HB hok hlb
    go_enter Try.func16, Try.ntmps16
    go_wp2_with fail
    refine HF.out.mono ?_
    rintro e w1 ⟨rfl, hb1⟩
    have HW1 := Lib.hid hb1
    clear hb1
    go_wp2
    go_ret2
    exact ⟨rfl, HW1.out⟩
end Go.Proofs.Ytiilhnedflmgoaa
