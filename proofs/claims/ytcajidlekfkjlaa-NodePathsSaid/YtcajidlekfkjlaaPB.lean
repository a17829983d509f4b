/-
THE WALKS OF rise, mayStand, May.
-/
import Derived.Test.YtcajidlekfkjlaaPA
namespace Go.Proofs.Ytcajidlekfkjlaa
open Go.RowKit

set_option maxRecDepth 100000 in
theorem rise_any (A : Option Addr) (n c e : Nat) (l : List CV) (w : World) (h : CR w All All A n l) (hn : n ≤ 20001) (he : ∀ x ∈ l, x.u = true → e ≤ x.m ∧ 1 ≤ x.m) :
    Calls Try.prog 95 #[.slice A n c, .int .i64 (e : Int)] w fun q w' => q = .returned (.bool (rise e (l.map CV.e))) ∧ Below w.heap.size w w' := by
  have HR := Lib.hid h
  have HE := Lib.hid he
  have HL := Lib.hid h.1
  have HB0 := Lib.hid (Below.refl w.heap.size w)
  clear h he
  go_enter Try.func95, Try.ntmps95
  go_wp2
  go_loopw [5, 11] (fun z i wr => ∃ (k : Nat) (zA : Option Addr) (zm zc : Nat) (zl : List Nat), k ≤ n ∧ i = .int .i64 (k : Int) ∧ z = .slice zA zm zc ∧ (List.range k).all (okAt e (l.map CV.e)) = true ∧ RB w All zA zm zl ∧ (0 < k → zl = ent e ((l.map CV.e).getD (k - 1) cz).d) ∧ Below w.heap.size w wr) (fun _ i _ => n - (intOf i).toNat)
  case atStart => exact ⟨0, none, 0, 0, [], by omega, rfl, rfl, rfl, RB.nil_, fun h => by omega, HB0.out⟩
  case round =>
    obtain ⟨k, zA, zm, zc, zl, hk, rfl, rfl, hall, hz, hzl, hbel⟩ := hrel
    have HB := Lib.hid hbel
    have HA := Lib.hid hall
    have HZ := Lib.hid hz
    have HZL := Lib.hid hzl
    have hsz := hbel.size
    clear hbel hall hz hzl
    by_cases hlt : k < n
    · obtain ⟨g, o, x, rfl, hg, _, hx, hxi, b0, b1, b2⟩ := (HR.out.below HB.out).at_ hlt
      have hxe := HE.out x (List.mem_of_getElem? hx)
      have hxi0 := HR.out.2.1 x (List.mem_of_getElem? hx)
      have hget := getD_at (es_at hx)
      obtain ⟨u, kk, xA, m, xc, d⟩ := x
      have hlen := hxi0.len
      have hmc := hxi0.mc
      have hml := hxi0.ml
      have HRB := Lib.hid hxi0.b
      simp only at b0 b1 b2 hxe hlen hmc hml HRB
      have HB2 := Lib.hid (HB.out.alloc hsz (.cells #[.bool u, .int .u32 (kk : Int), .slice xA m xc] 48))
      have hWi : IntKind.i64.wrap ((k : Int) + 1) = ((k + 1 : Nat) : Int) := by rw [IntWalk.i64_in _ (by omega)]; omega
      have hin : ((k : Int) < (n : Int)) := by omega
      have HG := Lib.hid hget
      clear hx hxi hxi0 hget
      cases u with
      | false =>
        have HN := Lib.hid (show rise e (l.map CV.e) = false from all_stop (k := k) (by rw [List.length_map, HL.out]; exact hlt) (by unfold okAt; rw [HG.out]; rfl))
        go_wp2_with fail
        go_ret
        exact ⟨by rw [HN.out]; rfl, HB2.out⟩
      | true =>
        obtain ⟨h1, h2⟩ := hxe rfl
        obtain ⟨ad, rfl, _⟩ := HRB.out.at_ (k := 0) (by omega)
        obtain ⟨j, hj⟩ : ∃ j, j = m - e := ⟨_, rfl⟩
        have hsub : IntKind.i64.wrap ((m : Int) - (e : Int)) = (j : Int) := by rw [IntWalk.i64_in _ (by omega)]; omega
        have hjc : j ≤ xc := by omega
        have hjm : j ≤ m := by omega
        have HRJ := Lib.hid (show RB w All (some ad) j (ent e d) by rw [ent, hlen, ← hj]; exact HRB.out.take hjm)
        have HEQ := Lib.hid (show ent e ((l.map CV.e).getD (k + 1 - 1) cz).d = ent e d by rw [Nat.add_sub_cancel, HG.out]; rfl)
        have HJ := Lib.hid hj
        clear hj hxe h1 h2
        by_cases hk0 : k = 0
        · have d1 : decide ((k : Int) > 0) = false := decide_eq_false (by omega)
          have d2 : decide (0 < k) = false := decide_eq_false (by omega)
          have HOK := Lib.hid (all_step HA.out (show okAt e (l.map CV.e) k = true by unfold okAt; rw [HG.out, hk0]; rfl))
          clear hk0
          go_wp2_with fail
          go_roundw
          case rel => exact ⟨k + 1, some ad, j, xc, ent e d, by omega, by go_num, rfl, HOK.out, HRJ.out, fun _ => HEQ.out.symm, HB2.out⟩
          case measure => simp [intOf]; omega
        · have d1 : decide ((k : Int) > 0) = true := decide_eq_true (by omega)
          have d2 : decide (0 < k) = true := decide_eq_true (by omega)
          have hzl := HZL.out (by omega)
          have HC := Lib.hid (fun W (hW : Below w.heap.size w W) => compare_any zA zm zc zl (some ad) j xc (ent e d) W (HZ.out.keep (Fr.of_below hW No) fun _ _ hn => hn) (HRJ.out.keep (Fr.of_below hW No) fun _ _ hn => hn))
          have hcg := cmpN_ge zl (ent e d)
          have hk1 : (k == 0) = false := beq_false_of_ne hk0
          have hok : okAt e (l.map CV.e) k = ltb zl (ent e d) := by unfold okAt; rw [HG.out, hk1, ← hzl]; rfl
          have HOK := Lib.hid hok
          obtain ⟨cn, hcn⟩ : ∃ cn, cn = cmpN zl (ent e d) := ⟨_, rfl⟩
          rw [← hcn] at HC hcg
          have HB3 := Lib.hid (HB2.out)
          clear hzl hok hk1 hk0 hcn
          cases hlt2 : ltb zl (ent e d) with
          | true =>
            rw [hlt2] at hcg
            have d3 : decide (cn ≥ 0) = false := hcg
            have HST := Lib.hid (all_step HA.out (HOK.out.trans hlt2))
            clear hlt2 hcg
            go_wp2_with (go_at_call 72; refine (HC.out _ HB3.out).mono ?_; rintro e w' ⟨rfl, rfl⟩)
            go_roundw
            case rel => exact ⟨k + 1, some ad, j, xc, ent e d, by omega, by go_num, rfl, HST.out, HRJ.out, fun _ => HEQ.out.symm, HB2.out⟩
            case measure => simp [intOf]; omega
          | false =>
            rw [hlt2] at hcg
            have d3 : decide (cn ≥ 0) = true := hcg
            have HN := Lib.hid (show rise e (l.map CV.e) = false from all_stop (k := k) (by rw [List.length_map, HL.out]; exact hlt) (HOK.out.trans hlt2))
            clear hlt2 hcg
            go_wp2_with (go_at_call 72; refine (HC.out _ HB3.out).mono ?_; rintro e w' ⟨rfl, rfl⟩)
            go_ret
            exact ⟨by rw [HN.out]; rfl, HB2.out⟩
    · have h1d : decide ((k : Int) < (n : Int)) = false := decide_eq_false (by omega)
      have h1d2 : decide (k < n) = false := decide_eq_false hlt
      have HS := Lib.hid (show rise e (l.map CV.e) = true by unfold rise; rw [List.length_map, HL.out, show n = k by omega]; exact HA.out)
      go_wp2
      go_ret
      exact ⟨by rw [HS.out]; rfl, HB.out⟩
set_option maxRecDepth 100000 in
theorem mayStand_any (k : Int) (A : Option Addr) (n c : Nat) (l : List CV) (w : World) (h : CR w All All A n l) (hn : n ≤ 20001) (hm : ∀ x ∈ l, x.u = true → 1 ≤ x.m) :
    Calls Try.prog 83 #[.int .i64 k, .slice A n c] w fun q w' => q = .returned (.bool (stand k (l.map CV.e))) ∧ Below w.heap.size w w' := by
  have HR := Lib.hid h
  have HM := Lib.hid hm
  have HL := Lib.hid h.1
  have HB0 := Lib.hid (Below.refl w.heap.size w)
  clear h hm
  by_cases h1 : k = 1
  · have d1 : (k == 1) = true := by rw [beq_iff_eq]; exact h1
    have HS := Lib.hid (show stand k (l.map CV.e) = lastU (l.map CV.e) by rw [stand, if_pos h1])
    clear h1
    by_cases h0 : n = 0
    · have d2 : ((n : Int) == 0) = true := by rw [beq_iff_eq]; omega
      have HT := Lib.hid (show lastU (l.map CV.e) = true by rw [lastU, List.length_map, HL.out, h0]; rfl)
      clear h0
      go_enter Try.func83, Try.ntmps83
      go_wp2
      go_ret
      exact ⟨by rw [HS.out, HT.out]; rfl, HB0.out⟩
    · have d2 : ((n : Int) == 0) = false := beq_false_of_ne (by omega)
      obtain ⟨j, hj⟩ : ∃ j, j = n - 1 := ⟨_, rfl⟩
      obtain ⟨g, o, x, rfl, hg, _, hx, hxi, b0, b1, b2⟩ := HR.out.at_ (show j < n by omega)
      have hget := getD_at (es_at hx)
      have HT := Lib.hid (show lastU (l.map CV.e) = x.u by
        rw [lastU, List.length_map, HL.out, ← hj, hget, show (n == 0) = false from beq_false_of_ne h0]
        rfl)
      have hsub : IntKind.i64.wrap ((n : Int) - 1) = (j : Int) := by rw [IntWalk.i64_in _ (by omega)]; omega
      have hjn : j < n := by omega
      clear hget hx hxi hj h0 b1 b2
      go_enter Try.func83, Try.ntmps83
      go_wp2
      go_ret
      exact ⟨by rw [HS.out, HT.out]; rfl, HB0.out⟩
  · have d1 : (k == 1) = false := beq_false_of_ne h1
    by_cases h3 : k = 3
    · have d3 : (k == 3) = true := by rw [beq_iff_eq]; exact h3
      have HS := Lib.hid (show stand k (l.map CV.e) = ((l.map CV.e).all innc && rise 4 (l.map CV.e)) by rw [stand, if_neg h1, if_pos h3])
      clear h1 h3
      go_enter Try.func83, Try.ntmps83
      go_wp2
      go_loopw [29] (fun i wr => ∃ q : Nat, q ≤ n ∧ i = .int .i64 (q : Int) ∧ ((l.map CV.e).take q).all innc = true ∧ Below w.heap.size w wr) (fun i _ => n - (intOf i).toNat)
      case atStart => exact ⟨0, by omega, rfl, rfl, HB0.out⟩
      case round =>
        obtain ⟨q, hq, rfl, hall, hbel⟩ := hrel
        have HB := Lib.hid hbel
        have HA := Lib.hid hall
        have hsz := hbel.size
        clear hbel hall
        by_cases hlt : q < n
        · obtain ⟨g, o, x, rfl, hg, _, hx, hxi, b0, b1, b2⟩ := (HR.out.below HB.out).at_ hlt
          have hx2 := es_at hx
          obtain ⟨u, kk, xA, m, xc, d⟩ := x
          have hlen := hxi.len
          simp only at b0 b1 b2 hlen
          have HB2 := Lib.hid (HB.out.alloc hsz (.cells #[.bool u, .int .u32 (kk : Int), .slice xA m xc] 48))
          have hWi : IntKind.i64.wrap ((q : Int) + 1) = ((q + 1 : Nat) : Int) := by rw [IntWalk.i64_in _ (by omega)]; omega
          have hin : ((q : Int) < (n : Int)) := by omega
          have HX := Lib.hid hx2
          have HIN := Lib.hid (show innc (CV.e ⟨u, kk, xA, m, xc, d⟩) = (kk == 0 && decide (4 < m)) by subst hlen; rfl)
          clear hx hxi hx2 hlen
          by_cases hk0 : kk = 0
          · have e1 : ((kk : Int) == 0) = true := by rw [beq_iff_eq]; omega
            have e1n : ((kk : Int) != 0) = false := by rw [bne_eq_false_iff_eq]; omega
            have e1b : (kk == 0) = true := by rw [beq_iff_eq]; exact hk0
            clear hk0
            by_cases h4 : 4 < m
            · have e2 : decide ((m : Int) ≤ 4) = false := decide_eq_false (by omega)
              have e2b : decide (4 < m) = true := decide_eq_true h4
              have HN := Lib.hid (take_all HX.out HA.out (HIN.out.trans (by rw [e1b, e2b]; rfl)))
              clear h4 e1b e2b
              go_wp2_with fail
              go_roundw
              case rel => exact ⟨q + 1, by omega, by go_num, HN.out, HB2.out⟩
              case measure => simp [intOf]; omega
            · have e2 : decide ((m : Int) ≤ 4) = true := decide_eq_true (by omega)
              have e2b : decide (4 < m) = false := decide_eq_false h4
              have HN := Lib.hid (stop_all HX.out (HIN.out.trans (by rw [e1b, e2b]; rfl)))
              clear h4 e1b e2b
              go_wp2_with fail
              go_ret
              exact ⟨by rw [HS.out, HN.out]; rfl, HB2.out⟩
          · have e1 : ((kk : Int) == 0) = false := beq_false_of_ne (by omega)
            have e1n : ((kk : Int) != 0) = true := bne_iff_ne.2 (by omega)
            have HN := Lib.hid (stop_all HX.out (HIN.out.trans (by rw [show (kk == 0) = false from beq_false_of_ne hk0]; rfl)))
            clear hk0
            go_wp2_with fail
            go_ret
            exact ⟨by rw [HS.out, HN.out]; rfl, HB2.out⟩
        · have h1d : decide ((q : Int) < (n : Int)) = false := decide_eq_false (by omega)
          have h1d2 : decide (q < n) = false := decide_eq_false hlt
          have hA2 : (l.map CV.e).all innc = true := by
            have := HA.out
            rwa [List.take_of_length_le (by rw [List.length_map, HL.out]; omega)] at this
          have HRS := Lib.hid (fun W (hW : Below w.heap.size w W) => rise_any A n c 4 l W (HR.out.below hW) hn (fun x hx _ => by
            have h5 := List.all_eq_true.1 hA2 x.e (List.mem_map_of_mem hx)
            unfold innc at h5
            simp only [Bool.and_eq_true, beq_iff_eq, decide_eq_true_eq] at h5
            have h6 := (HR.out.2.1 x hx).len
            have h7 : 4 < x.d.length := h5.2
            omega))
          have HS2 := Lib.hid (show stand k (l.map CV.e) = rise 4 (l.map CV.e) by rw [HS.out, hA2]; rfl)
          clear hA2
          go_wp2_with (go_at_call 95; refine (HRS.out _ HB.out).mono ?_; rintro e w' ⟨rfl, hb2⟩; have HB3 := Lib.hid (HB.out.trans (hb2.mono hsz)); clear hb2)
          go_ret
          exact ⟨by rw [HS2.out]; rfl, HB3.out⟩
    · have d3 : (k == 3) = false := beq_false_of_ne h3
      by_cases h2 : k = 2
      · have d2 : (k == 2) = true := by rw [beq_iff_eq]; exact h2
        have HS := Lib.hid (show stand k (l.map CV.e) = rise 0 (l.map CV.e) by rw [stand, if_neg h1, if_neg h3, if_pos h2])
        have HRS := Lib.hid (rise_any A n c 0 l w HR.out hn (fun x hx hu => ⟨Nat.zero_le _, HM.out x hx hu⟩))
        clear h1 h2 h3
        go_enter Try.func83, Try.ntmps83
        go_wp2_with (go_at_call 95; refine HRS.out.mono ?_; rintro e w' ⟨rfl, hb2⟩; have HB3 := Lib.hid hb2; clear hb2)
        go_ret
        exact ⟨by rw [HS.out]; rfl, HB3.out⟩
      · have d2 : (k == 2) = false := beq_false_of_ne h2
        have HS := Lib.hid (show stand k (l.map CV.e) = false by rw [stand, if_neg h1, if_neg h3, if_neg h2])
        clear h1 h2 h3
        go_enter Try.func83, Try.ntmps83
        go_wp2
        go_ret
        exact ⟨by rw [HS.out]; rfl, HB0.out⟩
end Go.Proofs.Ytcajidlekfkjlaa
