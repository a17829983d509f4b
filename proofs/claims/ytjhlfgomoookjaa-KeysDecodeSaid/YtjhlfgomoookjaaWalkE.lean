/-
  THE WALKS OF THE document's Same, Order, Begins; of kept.
-/
import Derived.Test.YtjhlfgomoookjaaWalkD
namespace Go.Proofs.Ytjhlfgomoookjaa
open Go.RowKit Go.Sort
attribute [local go_sem high] run_eqv run_neqv run_eqs

/-- are two rows one -/
def eqR : List V → List V → Bool
  | [], [] => true
  | a :: x, b :: y => veq a.k a.n a.s b.k b.n b.s && eqR x y
  | _, _ => false
theorem veq_v {a b : V} : veq a.k a.n a.s b.k b.n b.s = true ↔ a = b := by
  rw [veq_eq]
  obtain ⟨_, _, _⟩ := a
  obtain ⟨_, _, _⟩ := b
  simp
theorem eqR_iff (a b : List V) : eqR a b = true ↔ a = b := by
  induction a generalizing b with
  | nil => cases b <;> simp [eqR]
  | cons u a ih =>
    cases b with
    | nil => simp [eqR]
    | cons v b => simp [eqR, ih, veq_v]
theorem eqR_of_ne {a b : List V} (h : a ≠ b) : eqR a b = false := by
  rw [Bool.eq_false_iff]
  intro e
  exact h ((eqR_iff a b).1 e)
theorem take_eq_next {xs ys : List V} {k : Nat} {a b : V} (h : xs.take k = ys.take k) (ha : xs[k]? = some a) (hb : ys[k]? = some b) (e : a = b) : xs.take (k + 1) = ys.take (k + 1) := by
  rw [take_next ha, take_next hb, h, e]
theorem below_fields {B : Nat} {a w w' : World} (h : Below B a w) (h1 : w'.os = w.os) (h2 : w'.tape = w.tape) (h3 : w'.output = w.output) (h4 : w'.heap = w.heap) : Below B a w' :=
  ⟨h1.trans h.os, h2.trans h.tape, h3.trans h.output, by rw [h4]; exact h.size, fun b hb => by rw [h4]; exact h.block b hb⟩

set_option maxRecDepth 100000 in
set_option maxHeartbeats 1000000 in
theorem same_any (A : Option Addr) (n c : Nat) (xs : List V) (B : Option Addr) (m d : Nat) (ys : List V) (w : World) (ha : RV w A n xs) (hb : RV w B m ys) :
    Calls Try.prog 17 #[.slice A n c, .slice B m d] w fun e w' => e = .returned (.bool (eqR xs ys)) ∧ Below w.heap.size w w' := by
  have hla := ha.1
  have hlb := hb.1
  have hna := ha.2.2.1
  have hnb := hb.2.2.1
  have HA := Lib.hid ha
  have HB := Lib.hid hb
  clear ha hb
  by_cases hnm : n = m
  · subst hnm
    have hLA := Lib.hid hla
    have hLB := Lib.hid hlb
    clear hla hlb
    go_enter Try.func17, Try.ntmps17
    go_wp2
    go_loopw [5] (fun i wr => ∃ k : Nat, k ≤ n ∧ i = .int .i64 (k : Int) ∧ xs.take k = ys.take k ∧ Below w.heap.size w wr) (fun i _ => n - (intOf i).toNat)
    case atStart => exact ⟨0, by omega, rfl, rfl, Below.refl _ _⟩
    case round =>
      obtain ⟨k, hk, rfl, htk, hbel⟩ := hrel
      have HT := Lib.hid htk
      have HW := Lib.hid hbel
      clear htk hbel
      by_cases hlt : k < n
      · obtain ⟨g, o, a, rfl, hg, hva, hoa, a0, a1, a2⟩ := (HA.out.below HW.out).at_ hlt
        obtain ⟨g', o', b, rfl, hg', hvb, hob, b0, b1, b2⟩ := (HB.out.below HW.out).at_ hlt
        have HVA := Lib.hid hva
        have HVB := Lib.hid hvb
        have hva' := veq_v (a := a) (b := b)
        obtain ⟨ak, an, AS⟩ := a
        obtain ⟨bk, bn, BS⟩ := b
        simp only at a0 a1 a2 b0 b1 b2 hva'
        clear hva hvb hoa hob hg hg'
        by_cases hv : veq ak an AS bk bn BS = true
        · have HE := Lib.hid (hva'.1 hv)
          clear hva'
          go_wp2_with fail
          go_quiet (fail)
          go_wp2_with fail
          go_roundw
          case rel => exact ⟨k + 1, by omega, by go_num, take_eq_next HT.out HVA.out HVB.out HE.out, below_fields HW.out rfl rfl rfl rfl⟩
          case measure => simp [intOf]; omega
        · have hv' : veq ak an AS bk bn BS = false := by simpa using hv
          have HE := Lib.hid (fun e => hv (hva'.2 e))
          clear hva' hv
          go_wp2_with fail
          go_quiet (fail)
          go_wp2_with fail
          go_ret
          refine ⟨?_, below_fields HW.out rfl rfl rfl rfl⟩
          rw [eqR_of_ne]
          · rfl
          · intro e
            have h1 := HVA.out
            rw [e, HVB.out] at h1
            injection h1 with h1
            exact HE.out h1.symm
      · obtain rfl : k = n := by omega
        have htk := HT.out
        rw [List.take_of_length_le (by rw [hLA.out]; omega), List.take_of_length_le (by rw [hLB.out]; omega)] at htk
        have HTK := Lib.hid htk
        clear htk
        go_wp2
        go_ret
        exact ⟨by rw [(eqR_iff xs ys).2 HTK.out]; rfl, HW.out⟩
  · have he : eqR xs ys = false := eqR_of_ne (fun e => hnm (by rw [← hla, e, hlb]))
    have hnm2 : ((n : Int) == (m : Int)) = false := by simp; omega
    rw [he]
    clear he hla hlb HA HB hnm
    go_enter Try.func17, Try.ntmps17
    go_wp2
    go_ret
    exact ⟨rfl, Below.refl _ _⟩

theorem ordR_step {xs ys : List V} {k : Nat} {a b : V} (hx : xs[k]? = some a) (hy : ys[k]? = some b) : ordR (xs.drop k) (ys.drop k) = if ord a b = 0 then ordR (xs.drop (k + 1)) (ys.drop (k + 1)) else ord a b := by
  have e : ∀ {l : List V} {u : V}, l[k]? = some u → l.drop k = u :: l.drop (k + 1) := by
    intro l u h
    obtain ⟨hl, e⟩ := List.getElem?_eq_some_iff.1 h
    rw [List.drop_eq_getElem_cons hl, e]
  rw [e hx, e hy]
  rfl
theorem ordR_end {xs ys : List V} {k n m : Nat} (hx : xs.length = n) (hy : ys.length = m) (hk : k ≤ n) (hk' : k ≤ m) (h : ¬ (k < n ∧ k < m)) : ordR (xs.drop k) (ys.drop k) = if n < m then -1 else if n > m then 1 else 0 := by
  rcases Nat.lt_trichotomy n m with hlt | heq | hgt
  · obtain rfl : k = n := by omega
    rw [List.drop_of_length_le (by omega), if_pos hlt, List.drop_eq_getElem_cons (by omega)]
    rfl
  · subst heq
    obtain rfl : k = n := by omega
    rw [List.drop_of_length_le (by omega), List.drop_of_length_le (by omega)]
    simp [ordR]
  · obtain rfl : k = m := by omega
    rw [List.drop_of_length_le (l := ys) (by omega), if_neg (by omega), if_pos hgt, List.drop_eq_getElem_cons (by omega)]
    rfl
set_option maxRecDepth 100000 in
set_option maxHeartbeats 1000000 in
theorem orderR_any (A : Option Addr) (n c : Nat) (xs : List V) (B : Option Addr) (m d : Nat) (ys : List V) (w : World) (ha : RV w A n xs) (hb : RV w B m ys) (hx : xs.all V.may = true) (hy : ys.all V.may = true) :
    Calls Try.prog 18 #[.slice A n c, .slice B m d] w fun e w' => e = .returned (.int .i64 (ordR xs ys)) ∧ Below w.heap.size w w' := by
  have hLA := Lib.hid ha.1
  have hLB := Lib.hid hb.1
  have hna := ha.2.2.1
  have hnb := hb.2.2.1
  have HA := Lib.hid ha
  have HB := Lib.hid hb
  have HX := Lib.hid hx
  have HY := Lib.hid hy
  clear ha hb hx hy
  go_enter Try.func18, Try.ntmps18
  go_wp2
  go_loopw [5] (fun i wr => ∃ k : Nat, k ≤ n ∧ k ≤ m ∧ i = .int .i64 (k : Int) ∧ ordR xs ys = ordR (xs.drop k) (ys.drop k) ∧ Below w.heap.size w wr) (fun i _ => n - (intOf i).toNat)
  case atStart => exact ⟨0, by omega, by omega, rfl, rfl, Below.refl _ _⟩
  case round =>
    obtain ⟨k, hk, hk', rfl, hrec, hbel⟩ := hrel
    have HT := Lib.hid hrec
    have HW := Lib.hid hbel
    clear hrec hbel
    by_cases hin : k < n ∧ k < m
    · obtain ⟨hlt, hlt'⟩ := hin
      obtain ⟨g, o, a, rfl, hg, hva, hoa, ba⟩ := (HA.out.below HW.out).at_ hlt
      obtain ⟨g', o', b, rfl, hg', hvb, hob, bb⟩ := (HB.out.below HW.out).at_ hlt'
      have hst := ordR_step hva hvb
      have hma := List.all_eq_true.1 HX.out a (List.mem_of_getElem? hva)
      have hmb := List.all_eq_true.1 HY.out b (List.mem_of_getElem? hvb)
      have HC := Lib.hid (rorder_any a b hma hmb hoa.s hob.s)
      have HS := Lib.hid (HT.out.trans hst)
      obtain ⟨a0, a1, a2⟩ := ba.grown
      obtain ⟨b0, b1, b2⟩ := bb.grown
      generalize hz : ord a b = z at HC HS
      obtain ⟨ak, an, AS⟩ := a
      obtain ⟨bk, bn, BS⟩ := b
      simp only at HC a0 a1 a2 b0 b1 b2
      clear hva hvb hoa hob hg hg' hst hma hmb ba bb HT hz
      by_cases hz0 : z = 0
      · subst hz0
        go_wp2_with fail
        refine wp_region_quiet_below (by kernel_rfl) (by kernel_rfl) ?_
        repeat (go_big_quiet_step ((go_at_call 28; exact Calls.regrown_of (HC.out _))))
        refine wpQuiet_nil ?_
        intro _ hw'
        obtain ⟨p, rfl⟩ := hw'
        go_wp2
        go_roundw
        case rel => exact ⟨k + 1, by omega, by omega, by go_num, by simpa using HS.out, below_trans HW.out (below_regrown _ _ _)⟩
        case measure => simp [intOf]; omega
      · have hs := HS.out
        rw [if_neg hz0] at hs
        have HS2 := Lib.hid hs
        have hz1 : (z == 0) = false := by simpa using hz0
        clear hs HS
        go_wp2_with fail
        refine wp_region_quiet_below (by kernel_rfl) (by kernel_rfl) ?_
        repeat (go_big_quiet_step ((go_at_call 28; exact Calls.regrown_of (HC.out _))))
        refine wpQuiet_nil ?_
        intro _ hw'
        obtain ⟨p, rfl⟩ := hw'
        go_wp2
        go_ret
        exact ⟨by rw [HS2.out]; rfl, below_trans HW.out (below_regrown _ _ _)⟩
    · have HE := Lib.hid (HT.out.trans (ordR_end hLA.out hLB.out hk hk' hin))
      clear HT
      rcases Nat.lt_trichotomy n m with hlt | heq | hgt
      · obtain rfl : k = n := by omega
        have he := HE.out
        rw [if_pos hlt] at he
        have HE2 := Lib.hid he
        clear he
        go_wp2
        go_ret
        exact ⟨by rw [HE2.out]; rfl, HW.out⟩
      · subst heq
        obtain rfl : k = n := by omega
        have he := HE.out
        rw [if_neg (by omega), if_neg (by omega)] at he
        have HE2 := Lib.hid he
        clear he
        go_wp2
        go_ret
        exact ⟨by rw [HE2.out]; rfl, HW.out⟩
      · obtain rfl : k = m := by omega
        have he := HE.out
        rw [if_neg (by omega), if_pos hgt] at he
        have HE2 := Lib.hid he
        clear he
        go_wp2
        go_ret
        exact ⟨by rw [HE2.out]; rfl, HW.out⟩

/-! ### Begins -/
theorem begR_iff (r p : List V) : begR r p = (decide (p.length ≤ r.length) && eqR (r.take p.length) p) := by
  induction p generalizing r with
  | nil => cases r <;> simp [begR, eqR]
  | cons u p ih =>
    cases r with
    | nil => simp [begR]
    | cons v r =>
      simp only [begR, ih, List.length_cons, List.take_succ_cons, eqR, Nat.add_le_add_iff_right]
      cases veq v.k v.n v.s u.k u.n u.s <;> simp
theorem RV.take {w : World} {A : Option Addr} {n : Nat} {vs : List V} (h : RV w A n vs) {k : Nat} (hk : k ≤ n) : RV w A k (vs.take k) := by
  obtain ⟨h1, h2, h2', h3⟩ := h
  refine ⟨by simp; omega, fun v hv => h2 v (List.mem_of_mem_take hv), by omega, fun hn => ?_⟩
  obtain ⟨g, o, e, hg, hc⟩ := h3 (by omega)
  refine ⟨g, o, e, hg, fun i v hi => hc i v ?_⟩
  rw [List.getElem?_take] at hi
  split at hi
  · exact hi
  · cases hi
set_option maxRecDepth 100000 in
theorem begins_any (A : Option Addr) (n c : Nat) (xs : List V) (B : Option Addr) (m d : Nat) (ys : List V) (w : World) (ha : RV w A n xs) (hb : RV w B m ys) (hnc : n ≤ c) :
    Calls Try.prog 19 #[.slice A n c, .slice B m d] w fun e w' => e = .returned (.bool (begR xs ys)) ∧ Below w.heap.size w w' := by
  have hla := ha.1
  have hlb := hb.1
  have he := begR_iff xs ys
  rw [hla, hlb] at he
  by_cases hmn : m ≤ n
  · have HC := Lib.hid (same_any A m c (xs.take m) B m d ys w (ha.take hmn) hb)
    rw [show decide (m ≤ n) = true by simpa using hmn, Bool.true_and] at he
    rw [he]
    generalize eqR (xs.take m) ys = q at HC
    have hmc : m ≤ c := by omega
    clear ha hb he hla hlb
    go_enter Try.func19, Try.ntmps19
    go_wp2_with (go_at_call 17; refine HC.out.mono ?_; rintro e w1 ⟨rfl, hb⟩; have HB := Lib.hid hb; clear hb)
    go_ret
    exact ⟨rfl, HB.out⟩
  · rw [show decide (m ≤ n) = false by simpa using hmn, Bool.false_and] at he
    rw [he]
    clear ha hb he hla hlb
    go_enter Try.func19, Try.ntmps19
    go_wp2
    go_ret
    exact ⟨rfl, Below.refl _ _⟩

/-! ### kept -/
set_option maxRecDepth 100000 in
theorem kept_any (g c n : Nat) (xs : List V) (B : Option Addr) (d : Nat) (w0 w : World) (h : Lent w0 xs g c w) (hb : RV w B n xs) :
    Calls Try.prog 13 #[.slice (some ⟨g, 0, none⟩) n c, .slice B n d] w fun e w' => e = .returned (.bool true) ∧ Below w.heap.size w w' := by
  have hn := hb.1
  have hl := h.1
  have hm := h.2.1
  have ha := h.rv
  have hc := (h.2.2.1.at_ (k := xs.length) (by omega))
  obtain ⟨g', o', v, e, hg, hv, _, b0, b1, b2⟩ := hc
  injection e with e
  injection e with e1 e2
  subst e1 e2
  have hvm : v = mark := by simpa using hv.symm
  subst hvm
  simp only [mark] at b0 b1 b2
  rw [hn] at hl ha b0 b1 b2
  have HC := Lib.hid (same_any (some ⟨g, 0, none⟩) n c xs B n d xs w ha hb)
  rw [(eqR_iff xs xs).2 rfl] at HC
  have hv := veq_eq (k := 77) (n := 0) (s := ⟨#[]⟩) (k' := 77) (n' := 0) (s' := ⟨#[]⟩)
  have hv : veq 77 0 ⟨#[]⟩ 77 0 ⟨#[]⟩ = true := hv.2 ⟨rfl, rfl, rfl⟩
  have HBL := Lib.hid (fun (W : World) (hb : Below w.heap.size w W) (i : Nat) => hb.cell (p := ⟨g, i, none⟩) hg)
  simp only [Nat.zero_add] at b0 b1 b2
  simp only [maxLen] at hm
  clear h ha hb
  go_enter Try.func13, Try.ntmps13
  go_wp2_with (go_at_call 17; refine HC.out.mono ?_; rintro e w1 ⟨rfl, hb⟩; have c0 := (HBL.out _ hb (n * 3)).trans b0; have c1 := (HBL.out _ hb (n * 3 + 1)).trans b1; have c2 := (HBL.out _ hb (n * 3 + 2)).trans b2; have HB := Lib.hid hb; clear hb b0 b1 b2)
  go_ret
  exact ⟨rfl, HB.out⟩
end Go.Proofs.Ytjhlfgomoookjaa
