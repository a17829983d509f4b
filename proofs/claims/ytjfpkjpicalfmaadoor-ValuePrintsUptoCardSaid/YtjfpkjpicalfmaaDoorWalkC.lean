/-
  THE WALKS OF order, the program's and the document's.
-/
import Derived.Test.YtjfpkjpicalfmaaDoorWalkB
namespace Go.Proofs.YtjfpkjpicalfmaaDoor
open Go.RowKit Go.Sort
attribute [local go_sem high] run_eq23 run_neq23 run_eq9

/-- cmp.Or of three -/
theorem or3_any (a b c : Int) (g : Nat) (w : World) (h0 : w.cell? ⟨g, 0, none⟩ = some (.int .i64 a)) (h1 : w.cell? ⟨g, 1, none⟩ = some (.int .i64 b)) (h2 : w.cell? ⟨g, 2, none⟩ = some (.int .i64 c)) :
    Calls Tryd.prog 82 #[.slice (some ⟨g, 0, none⟩) 3 3] w fun e w' => e = .returned (.int .i64 (firstOf a b c)) ∧ w' = w := by
  have hc : ∀ i : Nat, i < 3 → w.cell? ⟨g, i, none⟩ = some (.int .i64 ([a, b, c].getD i 0)) := by
    intro i hi
    have : i = 0 ∨ i = 1 ∨ i = 2 := by omega
    rcases this with rfl | rfl | rfl
    · exact h0
    · exact h1
    · exact h2
  have HC := Lib.hid hc
  clear hc h0 h1 h2
  go_enter Tryd.func82, Tryd.ntmps82
  go_wp2
  go_loop [8] (fun i => ∃ k : Nat, k ≤ 3 ∧ i = .int .i64 (k : Int) ∧ ∀ j, j < k → [a, b, c].getD j 0 = 0) (fun i => 3 - (intOf i).toNat)
  case atStart => exact ⟨0, by omega, rfl, fun j hj => by omega⟩
  case round =>
    obtain ⟨k, hk, rfl, hz⟩ := hrel
    have HZ := Lib.hid hz
    clear hz
    by_cases hlt : k < 3
    · have hcell := HC.out k hlt
      by_cases hx : [a, b, c].getD k 0 = 0
      · have HX := Lib.hid hx
        have hb : ([a, b, c].getD k 0 != 0) = false := by simpa using hx
        generalize hy : [a, b, c].getD k 0 = y at *
        have HY := Lib.hid hy
        clear hx hy
        go_wp2
        go_round
        case rel =>
          refine ⟨k + 1, by omega, by go_num, fun j hj => ?_⟩
          by_cases e : j = k
          · subst e; rw [HY.out]; exact HX.out
          · exact HZ.out j (by omega)
        case measure => simp [intOf]; omega
      · have hb : ([a, b, c].getD k 0 != 0) = true := by simpa using hx
        have hf : firstOf a b c = [a, b, c].getD k 0 := by
          have : k = 0 ∨ k = 1 ∨ k = 2 := by omega
          have hz := HZ.out
          rcases this with rfl | rfl | rfl
          · simp at hx; simp [firstOf, hx]
          · have := hz 0 (by omega)
            simp at this hx; simp [firstOf, hx, this]
          · have e0 := hz 0 (by omega)
            have e1 := hz 1 (by omega)
            simp at e0 e1; simp [firstOf, e0, e1]
        have HF := Lib.hid hf
        clear hf hx
        generalize [a, b, c].getD k 0 = y at *
        go_wp2
        go_ret
        exact ⟨by rw [HF.out]; rfl, rfl⟩
    · obtain rfl : k = 3 := by omega
      have hf : firstOf a b c = 0 := by
        have e0 := HZ.out 0 (by omega)
        have e1 := HZ.out 1 (by omega)
        have e2 := HZ.out 2 (by omega)
        simp at e0 e1 e2
        simp [firstOf, e0, e1, e2]
      have HF := Lib.hid hf
      clear hf
      go_wp2
      go_ret
      exact ⟨by rw [HF.out]; rfl, rfl⟩

set_option maxRecDepth 10000 in
set_option maxHeartbeats 1000000 in
theorem order_any (a b : V) (w : World) : Calls Tryd.prog 46 #[.agg #[.int .i64 a.k, .int .i64 a.n, .string a.s], .agg #[.int .i64 b.k, .int .i64 b.n, .string b.s]] w fun e w' => e = .returned (.int .i64 (ord a b)) ∧ Below w.heap.size w w' := by
  obtain ⟨k, n, s⟩ := a
  obtain ⟨k', n', s'⟩ := b
  have ho : ord ⟨k, n, s⟩ ⟨k', n', s'⟩ = firstOf (Lib.compareInt (place k) (place k')) (Lib.compareInt n n') (cmpS s s') := rfl
  rw [ho]
  clear ho
  simp only
  go_enter Tryd.func46, Tryd.ntmps46
  go_wp2_with fail
  go_region_held3 (fun w' => w'.cell? ⟨w.heap.size, 0, none⟩ = some (.int .i64 k) ∧ w'.cell? ⟨w.heap.size, 1, none⟩ = some (.int .i64 n) ∧ w'.cell? ⟨w.heap.size, 2, none⟩ = some (.string s) ∧
      w'.cell? ⟨w.heap.size + 1, 0, none⟩ = some (.int .i64 k') ∧ w'.cell? ⟨w.heap.size + 1, 1, none⟩ = some (.int .i64 n') ∧ w'.cell? ⟨w.heap.size + 1, 2, none⟩ = some (.string s')) (go_keep)
    (first
      | (go_at_call 84; refine (place_any _ _).mono ?_; rintro e w' ⟨rfl, rfl⟩)
      | (go_at_call 83; refine (Tryd.cmp_Compare_int _ _ _).mono ?_; rintro e w' ⟨rfl, rfl⟩)
      | (go_at_call 85; refine (Tryd.cmp_Compare_int_f85 _ _ _).mono ?_; rintro e w' ⟨rfl, rfl⟩)
      | (go_at_call 86; refine (cmpString_any _ _ _).mono ?_; rintro e w' ⟨rfl, rfl⟩)
      | (go_at_call 82; refine (or3_any (Lib.compareInt (place k) (place k')) (Lib.compareInt n n') (cmpS s s') _ _ (by go_simp) (by go_simp) (by go_simp)).mono ?_; rintro e w' ⟨rfl, rfl⟩))
  go_wp2
  go_ret
  exact ⟨rfl, ((((Below.refl _ _).alloc (Nat.le_refl _) _).alloc (by simp) _).alloc (by simp; omega) _).drew⟩

theorem drop_cons {l : List UInt8} {k : Nat} (h : k < l.length) : l.drop k = l[k] :: l.drop (k + 1) := List.drop_eq_getElem_cons h
theorem toList_data (a : ByteArray) : a.toList = a.data.toList := by rw [ByteArray.toList_eq]
set_option maxHeartbeats 1000000 in
theorem bytes_any (a b : ByteArray) (ha : a.size ≤ 9223372036854775807) (hb : b.size ≤ 9223372036854775807) (w : World) : Calls Tryd.prog 88 #[.string a, .string b] w fun e w' => e = .returned (.int .i64 (cmpS a b)) ∧ Below w.heap.size w w' := by
  have HA : a.data.toList.length = a.size := rfl
  have HB : b.data.toList.length = b.size := rfl
  have HS : Hid (cmpS a b = cmpL a.data.toList b.data.toList) := by
    show cmpS a b = _
    unfold cmpS
    rw [toList_data, toList_data]
  have HA' := Lib.hid HA
  have HB' := Lib.hid HB
  clear HA HB
  go_enter Tryd.func88, Tryd.ntmps88
  go_wp2
  go_loopw [5] (fun i wr => ∃ k : Nat, k ≤ a.size ∧ k ≤ b.size ∧ i = .int .i64 (k : Int) ∧ cmpS a b = cmpL (a.data.toList.drop k) (b.data.toList.drop k) ∧ Below w.heap.size w wr) (fun i _ => a.size - (intOf i).toNat)
  case atStart => exact ⟨0, by omega, by omega, rfl, by simpa using HS.out, Below.refl _ _⟩
  case round =>
    obtain ⟨k, hka, hkb, rfl, hrec, hbel⟩ := hrel
    have HREC := Lib.hid hrec
    have HBEL := Lib.hid hbel
    clear hrec hbel HS
    by_cases h1 : k < a.size
    · by_cases h2 : k < b.size
      · have e1 : a.data.toList.drop k = a[k] :: a.data.toList.drop (k + 1) := drop_cons (by rw [HA'.out]; exact h1)
        have e2 : b.data.toList.drop k = b[k] :: b.data.toList.drop (k + 1) := drop_cons (by rw [HB'.out]; exact h2)
        have hr2 := HREC.out
        rw [e1, e2, cmpL] at hr2
        have HR2 := Lib.hid hr2
        clear hr2 e1 e2
        by_cases l1 : a[k] < b[k]
        · have hr3 := HR2.out
          rw [if_pos l1] at hr3
          have HR3 := Lib.hid hr3
          have d1 : decide (a[k].toNat < b[k].toNat) = true := by
            rw [UInt8.lt_iff_toNat_lt] at l1; simpa using l1
          clear hr3
          go_wp2_with fail
          go_quiet (fail)
          go_wp2_with fail
          go_ret
          exact ⟨by rw [HR3.out]; rfl, ⟨HBEL.out.os, HBEL.out.tape, HBEL.out.output, HBEL.out.size, HBEL.out.block⟩⟩
        · by_cases l2 : b[k] < a[k]
          · have hr3 := HR2.out
            rw [if_neg l1, if_pos l2] at hr3
            have HR3 := Lib.hid hr3
            have d1 : decide (a[k].toNat < b[k].toNat) = false := by
              rw [UInt8.lt_iff_toNat_lt] at l1; simpa using l1
            have d2 : decide (b[k].toNat < a[k].toNat) = true := by
              rw [UInt8.lt_iff_toNat_lt] at l2; simpa using l2
            clear hr3
            go_wp2_with fail
            go_quiet (fail)
            go_wp2_with fail
            go_quiet (fail)
            go_wp2_with fail
            go_ret
            exact ⟨by rw [HR3.out]; rfl, ⟨HBEL.out.os, HBEL.out.tape, HBEL.out.output, HBEL.out.size, HBEL.out.block⟩⟩
          · have hr3 := HR2.out
            rw [if_neg l1, if_neg l2] at hr3
            have HR3 := Lib.hid hr3
            have d1 : decide (a[k].toNat < b[k].toNat) = false := by
              rw [UInt8.lt_iff_toNat_lt] at l1; simpa using l1
            have d2 : decide (b[k].toNat < a[k].toNat) = false := by
              rw [UInt8.lt_iff_toNat_lt] at l2; simpa using l2
            clear hr3 l1 l2
            go_wp2_with fail
            go_quiet (fail)
            go_wp2_with fail
            go_quiet (fail)
            go_wp2_with fail
            go_roundw
            case rel => exact ⟨k + 1, by omega, by omega, by go_num, HR3.out, ⟨HBEL.out.os, HBEL.out.tape, HBEL.out.output, HBEL.out.size, HBEL.out.block⟩⟩
            case measure => simp [intOf]; omega
      · obtain rfl : k = b.size := by omega
        have hr2 : cmpS a b = 1 := by
          rw [HREC.out, drop_cons (l := a.data.toList) (by rw [HA'.out]; exact h1), List.drop_of_length_le (l := b.data.toList) (by rw [HB'.out]; exact Nat.le_refl _), cmpL]
        have HR2 := Lib.hid hr2
        clear hr2
        go_wp2_with fail
        go_ret
        exact ⟨by rw [HR2.out]; rfl, HBEL.out⟩
    · obtain rfl : k = a.size := by omega
      have hr2 : cmpS a b = if a.size < b.size then -1 else 0 := by
        rw [HREC.out, List.drop_of_length_le (l := a.data.toList) (by rw [HA'.out]; exact Nat.le_refl _)]
        by_cases h : a.size < b.size
        · rw [drop_cons (l := b.data.toList) (by rw [HB'.out]; exact h), cmpL, if_pos h]
        · rw [List.drop_of_length_le (l := b.data.toList) (by rw [HB'.out]; omega), cmpL, if_neg h]
      have HR2 := Lib.hid hr2
      clear hr2
      by_cases h : a.size < b.size
      · have hr2 := HR2.out
        rw [if_pos h] at hr2
        have HR3 := Lib.hid hr2
        clear hr2
        go_wp2_with fail
        go_ret
        exact ⟨by rw [HR3.out]; rfl, HBEL.out⟩
      · have hr2 := HR2.out
        rw [if_neg h] at hr2
        have HR3 := Lib.hid hr2
        clear hr2
        go_wp2_with fail
        go_ret
        exact ⟨by rw [HR3.out]; rfl, HBEL.out⟩
end Go.Proofs.YtjfpkjpicalfmaaDoor
