/-
  THE WALK OF KeysBack.
-/
import Derived.Test.YtjhlfgomoookjaaKit
import Derived.Test.YtjhlfgomoookjaaOpen
namespace Go.Proofs.Ytjhlfgomoookjaa.keysBack
open Go.RowKit Go.Sort
attribute [local go_sem high] run_eqv run_neqv run_eqs

theorem there {a : List V} (h : encE a = 0) (ok : ∀ v ∈ a, VOk v) : decO (encS a) = some a := by
  obtain ⟨m, s, h16, h140⟩ := enc_zero h
  have hu := unK_key a m (ok_n ok)
  have hz : (encS a).size ≤ 140 := encS_len a
  unfold decO
  rw [if_pos hz, s, sb_bs _ (key_lt a m), hu]
  simp [h16]
theorem back {s : ByteArray} {r : List V} (h : decO s = some r) : encE r = 0 ∧ encS r = s ∧ s.size ≤ 140 := by
  unfold decO at h
  by_cases h140 : s.size ≤ 140
  · rw [if_pos h140] at h
    cases hu : unK (sb s) with
    | none => rw [hu] at h; cases h
    | some q =>
      rw [hu] at h
      simp only at h
      by_cases h16 : q.length ≤ 16
      · rw [if_pos h16] at h
        injection h with h
        subst h
        obtain ⟨k, m, _⟩ := key_unK (sb s).length (sb s) (Nat.le_refl _) (sb_lt s) q hu
        obtain ⟨e1, e2⟩ := enc_ok (vs := q) (by omega) m (by rw [k, sb_len]; omega)
        refine ⟨e1, ?_, h140⟩
        rw [e2, k, bs_sb]
      · rw [if_neg h16] at h; cases h
  · rw [if_neg h140] at h; cases h
theorem extract_0 (s : ByteArray) (k : Nat) (h : k ≤ s.size) : sb (s.extract 0 k) = (sb s).take k := by
  have := (extract_sb s 0 k (by omega)).1
  simpa using this
theorem apart {a b : List V} (ha : encE a = 0) (hb : encE b = 0) (na : ∀ v ∈ a, VOk v) (nb : ∀ v ∈ b, VOk v) (hl : a.length = b.length) (hne : seq (encS a) (encS b) = false) (k : Nat)
    (hk : k = (encS a).size ∧ k ≤ (encS b).size ∨ k = (encS b).size ∧ k ≤ (encS a).size) : seq ((encS a).extract 0 k) ((encS b).extract 0 k) = false := by
  obtain ⟨ma, sa, _, _⟩ := enc_zero ha
  obtain ⟨mb, sb', _, _⟩ := enc_zero hb
  have hka : k ≤ (encS a).size := by omega
  have hkb : k ≤ (encS b).size := by omega
  rw [Bool.eq_false_iff]
  intro e
  have e := seq_eq.1 e
  have e := congrArg sb e
  rw [extract_0 _ _ hka, extract_0 _ _ hkb] at e
  have ea : sb (encS a) = key a := by rw [sa, sb_bs _ (key_lt a ma)]
  have eb : sb (encS b) = key b := by rw [sb', sb_bs _ (key_lt b mb)]
  have za : (encS a).size = (key a).length := by rw [← ea, sb_len]
  have zb : (encS b).size = (key b).length := by rw [← eb, sb_len]
  rw [ea, eb] at e
  have hab : a = b := by
    rcases hk with ⟨hk, _⟩ | ⟨hk, _⟩
    · rw [List.take_of_length_le (by omega)] at e
      refine key_apart a b ((key b).drop k) [] ma mb (ok_n na) (ok_n nb) hl ?_
      rw [e, List.take_append_drop, List.append_nil]
    · rw [List.take_of_length_le (l := key b) (by omega)] at e
      refine key_apart a b [] ((key a).drop k) ma mb (ok_n na) (ok_n nb) hl ?_
      rw [← e, List.take_append_drop, List.append_nil]
  subst hab
  rw [seq_refl] at hne
  cases hne

set_option maxRecDepth 100000 in
set_option maxHeartbeats 16000000 in
theorem walked (A : Option Addr) (n c : Nat) (a : List V) (B : Option Addr) (m d : Nat) (b : List V) (s : ByteArray) (w : World) (ha : RowIn w A n c a) (hb : RowIn w B m d b) (hs : s.size ≤ 9223372036854775807) :
    Calls Try.prog 7 #[.slice A n c, .slice B m d, .string s] w fun e w' => e = .returned (.bool true) ∧ Below w.heap.size w w' := by
  have hna := ha.1.2.1
  have hnb := hb.1.2.1
  have lna := ha.1.1
  have lnb := hb.1.1
  have HA := Lib.hid (fun (W : World) (h : Below w.heap.size w W) => ha.1.below h)
  have HL1 := Lib.hid (lent_any A n c a w ha.1 ha.2.2)
  have HL2 := Lib.hid (fun (W : World) (h : Below w.heap.size w W) => lent_any B m d b W (hb.1.below h) hb.2.2)
  have HW := Lib.hid (fun W => awake_any W)
  have HT : Hid (encE a = 0 → decO (encS a) = some a) := fun h => there h hna
  have HD1 := Lib.hid (fun W => decode_any (encS a) (Nat.le_trans (encS_len a) (by omega)) W)
  have HD2 := Lib.hid (fun W => decode_any s hs W)
  have HP : Hid (encE a = 0 → encE b = 0 → n = m → seq (encS a) (encS b) = false → ∀ k, (k = (encS a).size ∧ k ≤ (encS b).size ∨ k = (encS b).size ∧ k ≤ (encS a).size) → seq ((encS a).extract 0 k) ((encS b).extract 0 k) = false) :=
    fun h1 h2 h3 h4 k hk => apart h1 h2 hna hnb (by omega) h4 k hk
  have HZA := Lib.hid (encS_len a)
  have HZB := Lib.hid (encS_len b)
  clear ha hb hs hna hnb
  go_enter Try.func7, Try.ntmps7
  go_wp2_with fail
  refine HL1.out.mono ?_
  rintro e w1 ⟨g1, c1, rfl, hl⟩
  have HE := Lib.hid (encode_any _ _ c1 a _ hl.rv)
  rw [lna] at HE
  have HB1 := Lib.hid hl.2.2.2.2.2
  clear hl HL1
  go_wp2_with fail
  refine HE.out.mono ?_
  rintro e w2 ⟨rfl, hb⟩
  have HB2 := Lib.hid (below_trans HB1.out hb)
  clear hb HE HB1
  by_cases h1 : encE a = 0
  · rw [h1]
    have ht := HT.out h1
    unfold Dec at HD1
    rw [ht] at HD1
    generalize encS a = X at *
    clear HT ht
    go_wp2_with fail
    refine (HD1.out _).mono ?_
    rintro e w3 hcase
    clear HD1
    rcases hcase with ⟨r, v, hr, rfl, ho⟩ | ⟨hr, _⟩
    · injection hr with hr
      subst hr
      have ho1 := ho.1
      have h16 := (enc_zero h1).2.2.1
      rw [lna] at ho1 h16
      obtain ⟨A8, c8, rfl, _, _, _, hrv⟩ := ho1.reads (by omega)
      have HB3 := Lib.hid (below_trans HB2.out ho.2)
      have HS := Lib.hid (same_any A8 n c8 a A n c a _ hrv (HA.out _ HB3.out))
      rw [(eqR_iff a a).2 rfl] at HS
      clear ho ho1 hrv HB2
      go_wp2_with fail
      refine HS.out.mono ?_
      rintro e w4 ⟨rfl, hb⟩
      have HB4 := Lib.hid (below_trans HB3.out hb)
      clear hb HS HB3
      go_wp2_with fail
      refine (HD2.out _).mono ?_
      rintro e w5 hcase
      clear HD2
      rcases hcase with ⟨r, v, hr, rfl, ho⟩ | ⟨hr, rfl, hb⟩
      · obtain ⟨q1, q2, q3⟩ := back hr
        obtain ⟨A9, c9, rfl, _, _, _, hrv⟩ := ho.1.reads (by have := (enc_zero q1).2.2.1; omega)
        have HE := Lib.hid (encode_any A9 _ c9 r _ hrv)
        have HB5 := Lib.hid (below_trans HB4.out ho.2)
        have hss := seq_refl s
        unfold Enc at HE
        rw [q1, q2] at HE
        clear hr ho hrv q1 q2 HB4
        go_wp2_with fail
        refine HE.out.mono ?_
        rintro e w6 ⟨rfl, hb⟩
        have HB6 := Lib.hid (below_trans HB5.out hb)
        clear hb HE HB5
        go_wp2_with fail
        refine (HL2.out _ HB6.out).mono ?_
        rintro e w7 ⟨g7, c7, rfl, hl⟩
        have HE := Lib.hid (encode_any _ _ c7 b _ hl.rv)
        rw [lnb] at HE
        have HB7 := Lib.hid (below_trans HB6.out hl.2.2.2.2.2)
        clear hl HL2 HB6
        go_wp2_with fail
        refine HE.out.mono ?_
        rintro e w8 ⟨rfl, hb⟩
        have HB8 := Lib.hid (below_trans HB7.out hb)
        clear hb HE HB7
        by_cases h2 : encE b = 0
        · rw [h2]
          have HP := Lib.hid (HP.out h1 h2)
          clear h2
          generalize encS b = Y at *
          by_cases hnm : n = m
          · subst hnm
            cases hxy : seq X Y
            · have HP := Lib.hid (HP.out rfl hxy)
              have zx := HZA.out
              have zy := HZB.out
              by_cases hle : X.size ≤ Y.size
              · have hx := HP.out X.size (Or.inl ⟨rfl, hle⟩)
                have hx' := hx
                rw [ByteArray.extract_zero_size] at hx'
                unfold seq at hx'
                clear HP
                go_wp2_with fail
                go_region_with (go_at_call 14; refine (HW.out _).mono ?_; rintro e v1 ⟨rfl, hb1⟩; have HC1 := Lib.hid (below_trans (w1 := (World.drew _)) HB8.out.drew hb1); clear hb1)
                all_goals
                  go_wp2
                  go_ret
                  exact ⟨rfl, HC1.out⟩
              · have hx := HP.out Y.size (Or.inr ⟨rfl, by omega⟩)
                have hx' := hx
                rw [ByteArray.extract_zero_size] at hx'
                unfold seq at hx'
                clear HP
                go_wp2_with fail
                go_region_with (go_at_call 14; refine (HW.out _).mono ?_; rintro e v1 ⟨rfl, hb1⟩; have HC1 := Lib.hid (below_trans (w1 := (World.drew _)) HB8.out.drew hb1); clear hb1)
                all_goals
                  go_wp2
                  go_ret
                  exact ⟨rfl, HC1.out⟩
            · skip
              go_wp2_with fail
              refine (HW.out _).mono ?_
              rintro e v1 ⟨rfl, hb1⟩
              have HC1 := Lib.hid (below_trans HB8.out hb1)
              clear hb1
              go_wp2
              go_ret
              exact ⟨rfl, HC1.out⟩
          · have hnm2 : ((n : Int) == (m : Int)) = false := by simp; omega
            clear HP
            go_wp2_with fail
            refine (HW.out _).mono ?_
            rintro e v1 ⟨rfl, hb1⟩
            have HC1 := Lib.hid (below_trans HB8.out hb1)
            clear hb1
            go_wp2
            go_ret
            exact ⟨rfl, HC1.out⟩
        · generalize encE b = y at *
          have hz : (y == 0) = false := by simpa using h2
          generalize encS b = Y at *
          clear HP
          go_wp2_with fail
          refine (HW.out _).mono ?_
          rintro e v1 ⟨rfl, hb1⟩
          have HC1 := Lib.hid (below_trans HB8.out hb1)
          clear hb1
          go_wp2
          go_ret
          exact ⟨rfl, HC1.out⟩
      · have HB5 := Lib.hid (below_trans HB4.out hb)
        clear hr hb HB4
        go_wp2_with fail
        refine (HL2.out _ HB5.out).mono ?_
        rintro e w6 ⟨g6, c6, rfl, hl⟩
        have HE := Lib.hid (encode_any _ _ c6 b _ hl.rv)
        rw [lnb] at HE
        have HB6 := Lib.hid (below_trans HB5.out hl.2.2.2.2.2)
        clear hl HL2 HB5
        go_wp2_with fail
        refine HE.out.mono ?_
        rintro e w7 ⟨rfl, hb⟩
        have HB7 := Lib.hid (below_trans HB6.out hb)
        clear hb HE HB6
        by_cases h2 : encE b = 0
        · rw [h2]
          have HP := Lib.hid (HP.out h1 h2)
          clear h2
          generalize encS b = Y at *
          by_cases hnm : n = m
          · subst hnm
            cases hxy : seq X Y
            · have HP := Lib.hid (HP.out rfl hxy)
              have zx := HZA.out
              have zy := HZB.out
              by_cases hle : X.size ≤ Y.size
              · have hx := HP.out X.size (Or.inl ⟨rfl, hle⟩)
                have hx' := hx
                rw [ByteArray.extract_zero_size] at hx'
                unfold seq at hx'
                clear HP
                go_wp2_with fail
                go_region_with (go_at_call 14; refine (HW.out _).mono ?_; rintro e v1 ⟨rfl, hb1⟩; have HC1 := Lib.hid (below_trans (w1 := (World.drew _)) HB7.out.drew hb1); clear hb1)
                all_goals
                  go_wp2
                  go_ret
                  exact ⟨rfl, HC1.out⟩
              · have hx := HP.out Y.size (Or.inr ⟨rfl, by omega⟩)
                have hx' := hx
                rw [ByteArray.extract_zero_size] at hx'
                unfold seq at hx'
                clear HP
                go_wp2_with fail
                go_region_with (go_at_call 14; refine (HW.out _).mono ?_; rintro e v1 ⟨rfl, hb1⟩; have HC1 := Lib.hid (below_trans (w1 := (World.drew _)) HB7.out.drew hb1); clear hb1)
                all_goals
                  go_wp2
                  go_ret
                  exact ⟨rfl, HC1.out⟩
            · skip
              go_wp2_with fail
              refine (HW.out _).mono ?_
              rintro e v1 ⟨rfl, hb1⟩
              have HC1 := Lib.hid (below_trans HB7.out hb1)
              clear hb1
              go_wp2
              go_ret
              exact ⟨rfl, HC1.out⟩
          · have hnm2 : ((n : Int) == (m : Int)) = false := by simp; omega
            clear HP
            go_wp2_with fail
            refine (HW.out _).mono ?_
            rintro e v1 ⟨rfl, hb1⟩
            have HC1 := Lib.hid (below_trans HB7.out hb1)
            clear hb1
            go_wp2
            go_ret
            exact ⟨rfl, HC1.out⟩
        · generalize encE b = y at *
          have hz : (y == 0) = false := by simpa using h2
          generalize encS b = Y at *
          clear HP
          go_wp2_with fail
          refine (HW.out _).mono ?_
          rintro e v1 ⟨rfl, hb1⟩
          have HC1 := Lib.hid (below_trans HB7.out hb1)
          clear hb1
          go_wp2
          go_ret
          exact ⟨rfl, HC1.out⟩
    · cases hr
  · generalize encE a = x at *
    have hz : (x == 0) = false := by simpa using h1
    generalize encS a = X at *
    clear HT HD1 HP
    go_wp2_with fail
    refine (HD2.out _).mono ?_
    rintro e w3 hcase
    clear HD2
    rcases hcase with ⟨r, v, hr, rfl, ho⟩ | ⟨hr, rfl, hb⟩
    · obtain ⟨q1, q2, q3⟩ := back hr
      obtain ⟨A9, c9, rfl, _, _, _, hrv⟩ := ho.1.reads (by have := (enc_zero q1).2.2.1; omega)
      have HE := Lib.hid (encode_any A9 _ c9 r _ hrv)
      have HB3 := Lib.hid (below_trans HB2.out ho.2)
      have hss := seq_refl s
      unfold Enc at HE
      rw [q1, q2] at HE
      clear hr ho hrv q1 q2 HB2
      go_wp2_with fail
      refine HE.out.mono ?_
      rintro e w4 ⟨rfl, hb⟩
      have HB4 := Lib.hid (below_trans HB3.out hb)
      clear hb HE HB3
      go_wp2_with fail
      refine (HL2.out _ HB4.out).mono ?_
      rintro e w5 ⟨g5, c5, rfl, hl⟩
      have HE := Lib.hid (encode_any _ _ c5 b _ hl.rv)
      rw [lnb] at HE
      have HB5 := Lib.hid (below_trans HB4.out hl.2.2.2.2.2)
      clear hl HL2 HB4
      go_wp2_with fail
      refine HE.out.mono ?_
      rintro e w6 ⟨rfl, hb⟩
      have HB6 := Lib.hid (below_trans HB5.out hb)
      clear hb HE HB5
      generalize encE b = y at *
      generalize encS b = Y at *
      clear HZB
      go_wp2_with fail
      refine (HW.out _).mono ?_
      rintro e v1 ⟨rfl, hb1⟩
      have HC1 := Lib.hid (below_trans HB6.out hb1)
      clear hb1
      go_wp2
      go_ret
      exact ⟨rfl, HC1.out⟩
    · have HB3 := Lib.hid (below_trans HB2.out hb)
      clear hr hb HB2
      go_wp2_with fail
      refine (HL2.out _ HB3.out).mono ?_
      rintro e w4 ⟨g4, c4, rfl, hl⟩
      have HE := Lib.hid (encode_any _ _ c4 b _ hl.rv)
      rw [lnb] at HE
      have HB4 := Lib.hid (below_trans HB3.out hl.2.2.2.2.2)
      clear hl HL2 HB3
      go_wp2_with fail
      refine HE.out.mono ?_
      rintro e w5 ⟨rfl, hb⟩
      have HB5 := Lib.hid (below_trans HB4.out hb)
      clear hb HE HB4
      generalize encE b = y at *
      generalize encS b = Y at *
      clear HZB
      go_wp2_with fail
      refine (HW.out _).mono ?_
      rintro e v1 ⟨rfl, hb1⟩
      have HC1 := Lib.hid (below_trans HB5.out hb1)
      clear hb1
      go_wp2
      go_ret
      exact ⟨rfl, HC1.out⟩
end Go.Proofs.Ytjhlfgomoookjaa.keysBack
