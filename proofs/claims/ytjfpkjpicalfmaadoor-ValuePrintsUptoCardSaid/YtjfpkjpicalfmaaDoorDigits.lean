/-
  THE WALK OF the document's Digits.
-/
import Derived.Test.YtjfpkjpicalfmaaDoorBytes
import Derived.Test.YtjfpkjpicalfmaaDoorNumMath
namespace Go.Proofs.YtjfpkjpicalfmaaDoor
open Go.RowKit Go.Sort
open Go.Lib (itoa decDigits formatBool)

def decN (u : Nat) : List Nat := (decDigits u).map UInt8.toNat
def Dk (k : Nat) : List Nat := if k = 0 then [] else decN k
theorem decN_step (k : Nat) : decN k = Dk (k / 10) ++ [48 + k % 10] := by
  unfold decN Dk
  rw [decDigits]
  split
  · rename_i h
    have e : (UInt8.ofNat (48 + k)).toNat = 48 + k := by simp; omega
    rw [if_pos (by omega), Nat.mod_eq_of_lt h]
    simp only [List.map_cons, List.map_nil, e, List.nil_append]
  · rename_i h
    have e : (UInt8.ofNat (48 + k % 10)).toNat = 48 + k % 10 := by simp; omega
    rw [if_neg (by omega)]
    simp only [List.map_append, List.map_cons, List.map_nil, e, decN]
theorem decN_len (k : Nat) : ∀ u : Nat, u < 10 ^ (k + 1) → (decN u).length ≤ k + 1 := by
  induction k with
  | zero =>
    intro u hu
    rw [decN_step]
    have : u / 10 = 0 := by omega
    simp [Dk, this]
  | succ k ih =>
    intro u hu
    rw [decN_step]
    have := ih (u / 10) (by rw [Nat.pow_succ] at hu; omega)
    unfold Dk
    split
    · simp
    · simp; omega
/-- the digits so far, the lowest first -/
def Dg (U k : Nat) (l : List Nat) : Prop := (l = [] ∧ k = U) ∨ (l ≠ [] ∧ decN U = Dk k ++ l.reverse)
theorem Dg.next {U k : Nat} {l : List Nat} (h : Dg U k l) (hk : 0 < k ∨ l = []) : Dg U (k / 10) (l ++ [48 + k % 10]) := by
  refine Or.inr ⟨by simp, ?_⟩
  rcases h with ⟨rfl, rfl⟩ | ⟨hl, h⟩
  · simpa using decN_step k
  · rcases hk with hk | hk
    · rw [h]
      have : Dk k = Dk (k / 10) ++ [48 + k % 10] := by
        rw [← decN_step k]
        exact if_neg (by omega)
      rw [this]
      simp
    · exact absurd hk hl
theorem Dg.len {U k : Nat} {l : List Nat} (h : Dg U k l) (hU : U < 18446744073709551616) : l.length ≤ 20 := by
  rcases h with ⟨rfl, _⟩ | ⟨_, h⟩
  · simp
  · have := decN_len 19 U (by omega)
    rw [h] at this
    simp at this
    omega
theorem own_cells {w wr : World} {v : Value} {l : List Nat} (h : Own w wr v l) (hl : 0 < l.length) : ∃ g c, v = .slice (some ⟨g, 0, none⟩) l.length c ∧ l.length ≤ c ∧ g < wr.heap.size ∧ ∀ j, j < l.length → wr.cell? ⟨g, j, none⟩ = some (.int .u8 ((l.getD j 0 : Nat) : Int)) := by
  obtain ⟨⟨ho, _, _⟩, _⟩ := h
  rcases ho.2 with ⟨_, h0⟩ | ⟨g, cap, cur, rfl, _, hg, hc, _, hcur, htake⟩
  · omega
  · refine ⟨g, cap, rfl, hc, Blk.lt hg, fun j hj => ?_⟩
    rw [ho.cellAt j (by omega)]
    exact u8s_at l j hj
theorem rev_take (b : List Nat) (q : Nat) (h : q < b.length) : b.reverse.take (b.length - q) = b.reverse.take (b.length - (q + 1)) ++ [b.getD q 0] := by
  have e : b.length - q = (b.length - (q + 1)) + 1 := by omega
  rw [e, List.take_add_one]
  congr 1
  rw [List.getElem?_reverse (by omega)]
  have : b.length - 1 - (b.length - (q + 1)) = q := by omega
  rw [this]
  simp [h]

set_option maxRecDepth 100000 in
set_option maxHeartbeats 4000000 in
theorem digits_any (n : Int) (hn : In64 n) (w : World) : Calls Tryd.prog 79 #[.int .i64 n] w fun e w' => e = .returned (.string ⟨(itoa n).toArray⟩) ∧ Below w.heap.size w w' := by
  have HS := Lib.hid (size_any n hn)
  have hU : n.natAbs < 18446744073709551616 := by unfold In64 at hn; omega
  obtain ⟨L, hL⟩ : ∃ L, L = (if n < 0 then [45] else []) ++ decN n.natAbs := ⟨_, rfl⟩
  have HA : Hid ((⟨(itoa n).toArray⟩ : ByteArray) = bs L) := by
    show _ = _
    rw [← bs_sb ⟨(itoa n).toArray⟩]
    congr 1
    rw [hL]
    unfold sb itoa decN
    by_cases h : n < 0
    · rw [if_pos h, if_pos h]; rfl
    · rw [if_neg h, if_neg h, show n.toNat = n.natAbs by omega]; rfl
  rw [HA.out]
  have HL := Lib.hid hL
  generalize n.natAbs = U at HS HL hU
  clear hL HA hn
  go_enter Tryd.func79, Tryd.ntmps79
  go_wp2_with fail
  refine (HS.out _).mono ?_
  rintro e w1 ⟨rfl, hb1⟩
  have HB1 := Lib.hid hb1
  clear hb1 HS
  go_wp2
  go_loopw [3, 4] (fun v0 i wr => ∃ (k : Nat) (l : List Nat) (u : Value), u = v0 ∧ i = .int .u64 (k : Int) ∧ k ≤ U ∧ Own w wr u l ∧ Dg U k l) (fun v0 i _ => 2 * (intOf i).toNat + (match v0 with | .slice _ 0 _ => 1 | _ => 0))
  case atStart => exact ⟨U, [], _, rfl, rfl, Nat.le_refl _, Own.nil_at HB1.out, Or.inl ⟨rfl, rfl⟩⟩
  case round =>
    obtain ⟨k, l, u, rfl, rfl, hk, ho, hdg⟩ := hrel
    have hlen := hdg.len hU
    have HO := Lib.hid ho
    have HD := Lib.hid hdg
    obtain ⟨A, c, rfl, _, _, _⟩ := ho.1.reads
    clear ho
    rcases Nat.eq_zero_or_pos k with hk0 | hk0
    · by_cases hl0 : l = []
      · subst hk0 hl0
        have HN := Lib.hid (hdg.next (Or.inr rfl))
        clear hdg
        go_wp2_with (at_builtin; go_must (refine wpList_app rfl (.tmp 18) (.tmp 23) rfl _ _ [] rfl (HO.out.alloc _).1 (fun _ => True) _ 1 1 [48] rfl (by exact one_at _ _ 48 _ (by first | rfl | simp) (by rfl) (by omega)) (by simp) ?_); intro v1 w2 hown hgrow; have HS := Lib.hid (Own.step (HO.out.alloc _) hgrow hown); obtain ⟨g1, cc1, rfl, _, _, _⟩ := own_cells HS.out (by simp); clear hown hgrow)
        go_roundw
        case rel => exact ⟨0, [48], _, rfl, rfl, by omega, HS.out, HN.out⟩
        case measure => simp [intOf]
      · subst hk0
        have hne : (((l.length : Nat) : Int) == 0) = false := by
          have : l.length ≠ 0 := fun e => hl0 (List.eq_nil_of_length_eq_zero e)
          simp
          omega
        have hrev : decN U = l.reverse := by
          rcases hdg with ⟨h, _⟩ | ⟨_, h⟩
          · exact absurd h hl0
          · simpa [Dk] using h
        have hl1 : 0 < l.length := by
          rcases Nat.eq_zero_or_pos l.length with h | h
          · exact absurd (List.eq_nil_of_length_eq_zero h) hl0
          · exact h
        have HRV := Lib.hid hrev
        clear hdg HD hl0 hrev
        by_cases hneg : n < 0
        · have hd : decide (n < 0) = true := decide_eq_true hneg
          have hrl : L = (l ++ [45]).reverse := by
            rw [HL.out, if_pos hneg, HRV.out]
            simp
          go_wp2_with (at_builtin; go_must (refine wpList_app rfl (.tmp 27) (.tmp 28) rfl _ _ l rfl (HO.out.alloc _).1 (fun _ => True) _ 1 1 [45] rfl (by exact one_at _ _ 45 _ (by first | rfl | simp) (by rfl) (by omega)) (by omega) ?_); intro v1 w2 hown hgrow; have HB := Lib.hid (Own.step (HO.out.alloc _) hgrow hown); obtain ⟨b, hbe⟩ : ∃ b, b = l ++ [45] := ⟨_, rfl⟩; rw [← hbe] at HB hrl; have hb1 : 0 < b.length := (by rw [hbe]; simp); have hb20 : b.length ≤ 21 := (by rw [hbe]; simp; omega); obtain ⟨WB, hWB⟩ : ∃ WB, WB = w2 := ⟨_, rfl⟩; rw [← hWB] at HB ⊢; clear hown hgrow hbe hWB; obtain ⟨g, cc, hv, hcc, hgl, hcell⟩ := own_cells HB.out hb1; replace hv := hv.symm; subst hv; have hbl := HB.out.lt; have HBB := Lib.hid HB.out.2; clear HB; obtain ⟨N, hN⟩ : ∃ N, N = b.length := ⟨_, rfl⟩; rw [← hN] at hb1 hb20 hcc hcell ⊢; have HRL := Lib.hid hrl; have HN := Lib.hid hN; have HC := Lib.hid hcell; have HT := Lib.hid (fun q (h : q < N) => show b.reverse.take (N - q) = b.reverse.take (N - (q + 1)) ++ [b.getD q 0] from (by rw [hN]; exact rev_take b q (by omega))); have hfull : b.reverse.take N = L := (by rw [hrl, List.take_of_length_le (by simp; omega)]); have HFULL := Lib.hid hfull; clear hrl hcell hfull)
          go_loopw [5, 6] (fun u0 i wq => ∃ (c : Nat) (p : Int) (u : Value), u = u0 ∧ c ≤ N ∧ p = (c : Int) - 1 ∧ i = .int .i64 p ∧ Own WB wq u (b.reverse.take (N - c))) (fun _ i _ => (intOf i + 1).toNat)
          case atStart => exact ⟨N, (N : Int) - 1, _, rfl, by omega, rfl, by go_num, by simpa using Own.nil_ WB⟩
          case round =>
            obtain ⟨c, p, u, rfl, hc, hp, rfl, ho⟩ := hrel
            have HO := Lib.hid ho
            clear ho
            rcases c with _ | q
            · have hg0 : decide (p ≥ 0) = false := decide_eq_false (by omega)
              clear hp
              have ho1 := HO.out.1
              rw [Nat.sub_zero, HFULL.out] at ho1
              generalize L.length = NL at ho1
              obtain ⟨A9, c9, rfl, _, _, hr9⟩ := ho1.reads
              have hcv := run_conv _ A9 _ c9 _ _ hr9
              clear ho1 hr9
              go_wp2
              go_ret
              exact ⟨rfl, HBB.out.trans (HO.out.2.mono HBB.out.size)⟩
            · obtain rfl : p = (q : Int) := by omega
              have hg0 : decide ((q : Int) ≥ 0) = true := decide_eq_true (by omega)
              have hq : q < N := by omega
              have hx := (HO.out.2.cell (p := ⟨g, q, none⟩) hgl).trans (HC.out q hq)
              have hx2 : b.getD q 0 < 256 := by
                have : b.getD q 0 = b[q]'(by rw [← HN.out]; exact hq) := by simp [HN.out ▸ hq]
                rw [this]
                exact hbl _ (List.getElem_mem _)
              have ht := HT.out q hq
              have hlen : (b.reverse.take (N - (q + 1))).length ≤ 30 := by simp; omega
              generalize b.getD q 0 = x at hx hx2 ht
              have HTT := Lib.hid ht
              clear hp ht
              go_wp2_with (at_builtin; go_must (refine wpList_app rfl (.tmp 37) (.tmp 42) rfl u _ (b.reverse.take (N - (q + 1))) rfl (HO.out.alloc _).1 (fun _ => True) _ 1 1 [x] rfl (by exact one_at _ _ x _ (by first | rfl | simp) (by rfl) (by omega)) (by omega) ?_); intro v1 w2 hown hgrow; have HS := Lib.hid (Own.step (HO.out.alloc _) hgrow hown); clear hown hgrow)
              go_roundw
              case rel => exact ⟨q, (q : Int) - 1, _, rfl, by omega, rfl, by go_num, by rw [HTT.out]; exact HS.out⟩
              case measure => simp [intOf]
        · have hd : decide (n < 0) = false := decide_eq_false hneg
          have hrl : L = l.reverse := by
            rw [HL.out, if_neg hneg, HRV.out]
            simp
          have HB := HO
          obtain ⟨b, hbe⟩ : ∃ b, b = l := ⟨_, rfl⟩
          subst hbe
          have hb1 := hl1
          have hb20 : b.length ≤ 21 := by omega
          obtain ⟨WB, hWB⟩ : ∃ WB, WB = wr := ⟨_, rfl⟩
          subst hWB
          clear HO
          obtain ⟨g, cc, hv, hcc, hgl, hcell⟩ := own_cells HB.out hb1
          injection hv with hv1 _ hv3
          subst hv1 hv3
          have hbl := HB.out.lt
          have HBB := Lib.hid HB.out.2
          clear HB
          obtain ⟨N, hN⟩ : ∃ N, N = b.length := ⟨_, rfl⟩
          rw [← hN] at hb1 hb20 hcc hcell ⊢
          have HRL := Lib.hid hrl
          have HN := Lib.hid hN
          have HC := Lib.hid hcell
          have HT := Lib.hid (fun q (h : q < N) => show b.reverse.take (N - q) = b.reverse.take (N - (q + 1)) ++ [b.getD q 0] from (by rw [hN]; exact rev_take b q (by omega)))
          have hfull : b.reverse.take N = L := by rw [hrl, List.take_of_length_le (by simp; omega)]
          have HFULL := Lib.hid hfull
          clear hrl hcell hfull
          go_wp2
          go_loopw [5, 6] (fun u0 i wq => ∃ (c : Nat) (p : Int) (u : Value), u = u0 ∧ c ≤ N ∧ p = (c : Int) - 1 ∧ i = .int .i64 p ∧ Own WB wq u (b.reverse.take (N - c))) (fun _ i _ => (intOf i + 1).toNat)
          case atStart => exact ⟨N, (N : Int) - 1, _, rfl, by omega, rfl, by go_num, by simpa using Own.nil_ WB⟩
          case round =>
            obtain ⟨c, p, u, rfl, hc, hp, rfl, ho⟩ := hrel
            have HO := Lib.hid ho
            clear ho
            rcases c with _ | q
            · have hg0 : decide (p ≥ 0) = false := decide_eq_false (by omega)
              clear hp
              have ho1 := HO.out.1
              rw [Nat.sub_zero, HFULL.out] at ho1
              generalize L.length = NL at ho1
              obtain ⟨A9, c9, rfl, _, _, hr9⟩ := ho1.reads
              have hcv := run_conv _ A9 _ c9 _ _ hr9
              clear ho1 hr9
              go_wp2
              go_ret
              exact ⟨rfl, HBB.out.trans (HO.out.2.mono HBB.out.size)⟩
            · obtain rfl : p = (q : Int) := by omega
              have hg0 : decide ((q : Int) ≥ 0) = true := decide_eq_true (by omega)
              have hq : q < N := by omega
              have hx := (HO.out.2.cell (p := ⟨g, q, none⟩) hgl).trans (HC.out q hq)
              have hx2 : b.getD q 0 < 256 := by
                have : b.getD q 0 = b[q]'(by rw [← HN.out]; exact hq) := by simp [HN.out ▸ hq]
                rw [this]
                exact hbl _ (List.getElem_mem _)
              have ht := HT.out q hq
              have hlen : (b.reverse.take (N - (q + 1))).length ≤ 30 := by simp; omega
              generalize b.getD q 0 = x at hx hx2 ht
              have HTT := Lib.hid ht
              clear hp ht
              go_wp2_with (at_builtin; go_must (refine wpList_app rfl (.tmp 37) (.tmp 42) rfl u _ (b.reverse.take (N - (q + 1))) rfl (HO.out.alloc _).1 (fun _ => True) _ 1 1 [x] rfl (by exact one_at _ _ x _ (by first | rfl | simp) (by rfl) (by omega)) (by omega) ?_); intro v1 w2 hown hgrow; have HS := Lib.hid (Own.step (HO.out.alloc _) hgrow hown); clear hown hgrow)
              go_roundw
              case rel => exact ⟨q, (q : Int) - 1, _, rfl, by omega, rfl, by go_num, by rw [HTT.out]; exact HS.out⟩
              case measure => simp [intOf]
    · have HN := Lib.hid (hdg.next (Or.inl hk0))
      have hc1 : decide ((k : Int) > 0) = true := decide_eq_true (by omega)
      obtain ⟨m, hm⟩ : ∃ m, m = k % 10 := ⟨_, rfl⟩
      rw [← hm] at HN
      have hm10 : m < 10 := by omega
      have hmi : (k : Int) % 10 = (m : Int) := by omega
      have hw1 : IntKind.u64.wrap (48 + (m : Int)) = ((48 + m : Nat) : Int) := by simp [IntKind.wrap, IntKind.signed, IntKind.bits]; omega
      have hw2 : IntKind.u8.wrap (48 + (m : Int)) = ((48 + m : Nat) : Int) := by simp [IntKind.wrap, IntKind.signed, IntKind.bits]; omega
      have hw3 : IntKind.u8.wrap ((48 + m : Nat) : Int) = ((48 + m : Nat) : Int) := by simp [IntKind.wrap, IntKind.signed, IntKind.bits]; omega
      have hdv : IntKind.u64.wrap ((k : Int) / 10) = ((k / 10 : Nat) : Int) := by simp [IntKind.wrap, IntKind.signed, IntKind.bits]; omega
      clear hdg hm
      go_wp2_with (at_builtin; go_must (refine wpList_app rfl (.tmp 18) (.tmp 23) rfl _ _ l rfl (HO.out.alloc _).1 (fun _ => True) _ 1 1 [48 + m] rfl (by exact one_at _ _ (48 + m) _ (by first | rfl | simp) (by first | rfl | exact hw2 | exact hw3 | omega) (by omega)) (by omega) ?_); intro v1 w2 hown hgrow; have HS := Lib.hid (Own.step (HO.out.alloc _) hgrow hown); obtain ⟨g1, cc1, rfl, _, _, _⟩ := own_cells HS.out (by simp); clear hown hgrow)
      go_roundw
      case rel => exact ⟨k / 10, l ++ [48 + m], _, rfl, by go_num, by omega, by simpa using HS.out, HN.out⟩
      case measure => simp [intOf]; omega
end Go.Proofs.YtjfpkjpicalfmaaDoor
