/-
  THE WALK OF marksOf.
-/
import Derived.Test.YtiilhnedflmgoaaWalkJ
namespace Go.Proofs.Ytiilhnedflmgoaa
open Go.RowKit Go.Sort

set_option maxRecDepth 100000 in
theorem Ow.cell_at {w : World} {S : Nat → Prop} {v : Value} {n : Nat} {l : List Nat} (h : Ow w S v n l) {j : Nat} (hj : j < n) :
    ∃ g cap, v = .slice (some ⟨g, 0, none⟩) n cap ∧ S g ∧ w.cell? ⟨g, j, none⟩ = some (.int .u8 ((l.getD j 0 : Nat) : Int)) ∧ w.frozen? ⟨g, j, none⟩ = false ∧
      ∀ y : Nat, y < 256 → Ow (w.setCell ⟨g, j, none⟩ (.int .u8 (y : Int))) S v n (l.set j y) := by
  have hln := h.len
  obtain ⟨ho, hl, hS⟩ := h
  rcases ho.2 with ⟨_, h0⟩ | ⟨g, cap, cur, rfl, _, hg, hc, _, hcur, htake⟩
  · omega
  · refine ⟨g, cap, rfl, hS g rfl, ?_, ho.frozenAt j, fun y hy => ⟨?_, ?_, hS⟩⟩
    · rw [ho.cellAt j (by omega)]
      exact u8s_at l j (by omega)
    · have := (ho.stored j (.int .u8 (y : Int))).1
      have e : (u8s l).set j (.int .u8 (y : Int)) = u8s (l.set j y) := by simp [u8s, List.map_set]
      rw [e] at this
      exact this
    · intro x hx
      rcases List.mem_or_eq_of_mem_set hx with hx | hx
      · exact hl x hx
      · rw [hx]; exact hy
theorem made_noughts (n : Nat) : madeCells #[Value.int .u8 0] n = (u8s (List.replicate n 0)).toArray := by
  apply Array.ext
  · simp [madeCells, u8s]
  · intro i h1 h2
    simp [madeCells, u8s]
    rw [Nat.mod_one]
    rfl
set_option maxRecDepth 100000 in
theorem run_mk (n : Nat) (hn : n ≤ 140737488355328) (u : World) : (Instr.makeSlice 57 (.int .i64 (n : Int)) (.int .i64 (n : Int))).run Try.prog u =
    .ok (.slice (some ⟨u.heap.size, 0, none⟩) n n) (u.alloc (.cells (u8s (List.replicate n 0)).toArray 5)) := by
  obtain ⟨i0, hi, hz0, hz1, hz2⟩ := info_parts info5
  have h := run_make (P := Try.prog) u 57 5 i0 (.int .u8 0) Try.underlying57 hi hz0 .i64 .i64 (n : Int) (n : Int) (by omega) (Int.le_refl _) (by rw [hz2]; omega) (by omega)
  simpa [hz1, Value.cells, made_noughts] using h
set_option maxRecDepth 100000 in
theorem Ow.zeros (w : World) (S : Nat → Prop) (n : Nat) (hn : n ≤ 1048576) (hS : S w.heap.size) : Ow (w.alloc (.cells (u8s (List.replicate n 0)).toArray 5)) S (.slice (some ⟨w.heap.size, 0, none⟩) n n) n (List.replicate n 0) := by
  refine ⟨⟨by simp [u8s], Or.inr ⟨w.heap.size, n, _, rfl, Nat.zero_le _, heap_alloc_new w _, Nat.le_refl _, by simp only [maxLen]; omega, by simp [u8s], ?_⟩⟩, ?_, fun k hk => ?_⟩
  · rw [List.take_of_length_le]
    simp [u8s]
  · intro x hx
    rw [List.eq_of_mem_replicate hx]
    omega
  · simp [Value.ownBlock] at hk
    subst hk
    exact hS

/-- the row of marks that is being made -/
def Mk (w wr : World) (v : Value) (vs : List V) (j : Nat) : Prop := Ow wr (fun b => w.heap.size ≤ b) v (mB vs.length) (mk vs j) ∧ Below w.heap.size w wr
theorem Mk.alloc {w wr : World} {v : Value} {vs : List V} {j : Nat} (h : Mk w wr v vs j) (o : Obj) : Mk w (wr.alloc o) v vs j := ⟨h.1.alloc o, h.2.alloc h.2.size o⟩
theorem mk_step {vs : List V} {j : Nat} {v : V} (h : vs[j]? = some v) : mk vs (j + 1) = if v.k = 0 then (mk vs j).set (j / 8) ((mk vs j).getD (j / 8) 0 ||| 2 ^ (j % 8)) else mk vs j := by
  simp only [mk, nullAt_get h]
  by_cases hk : v.k = 0 <;> simp [hk]
theorem mk_byte (vs : List V) (j q : Nat) : (mk vs j).getD q 0 < 256 := by
  rw [List.getD_eq_getElem?_getD]
  rcases Nat.lt_or_ge q (mk vs j).length with h | h
  · rw [List.getElem?_eq_getElem h]
    exact mk_lt vs j _ (List.getElem_mem _)
  · rw [List.getElem?_eq_none h]
    simp
set_option maxRecDepth 100000 in
set_option maxHeartbeats 4000000 in
theorem marksOf_any (A : Option Addr) (n c : Nat) (vs : List V) (w : World) (h : RV w A n vs) (hn : n ≤ 1000) : Calls Try.prog 30 #[.slice A n c] w (New w (marks vs)) := by
  have HB := Lib.hid (markBytes_any n (by omega) w)
  have hlen := h.1
  have hm : mB n ≤ 1000 := by unfold mB; omega
  have hmk := run_mk (mB n) (by omega) w
  have HZ := Lib.hid (Ow.zeros w (fun b => w.heap.size ≤ b) (mB n) (by omega) (Nat.le_refl _))
  have H := Lib.hid h
  have HL := Lib.hid hlen
  have hq8 : ∀ k, k < n → k / 8 < mB n := fun k hk => by unfold mB; omega
  have h0 : mk vs 0 = List.replicate (mB n) 0 := by rw [← hlen]; rfl
  have HZ : Hid (Ow (w.alloc (.cells (u8s (List.replicate (mB n) 0)).toArray 5)) (fun b => w.heap.size ≤ b) (.slice (some ⟨w.heap.size, 0, none⟩) (mB n) (mB n)) (mB n) (mk vs 0)) := by show Ow _ _ _ _ _; rw [h0]; exact HZ.out
  have HME : Hid (mB vs.length = mB n) := by show _ = _; rw [hlen]
  generalize mB n = m at *
  clear h hlen h0
  go_enter Try.func30, Try.ntmps30
  go_wp2_with (go_at_call 55; refine HB.out.mono ?_; rintro e w1 ⟨rfl, rfl⟩)
  go_loopw [12] (fun i wr => ∃ k : Nat, k ≤ n ∧ i = .int .i64 (k : Int) ∧ Ow wr (fun b => w.heap.size ≤ b) (.slice (some ⟨w.heap.size, 0, none⟩) m m) m (mk vs k) ∧ Below w.heap.size w wr) (fun i _ => n - (intOf i).toNat)
  case atStart => exact ⟨0, by omega, rfl, HZ.out, (Below.refl _ _).alloc (Nat.le_refl _) _⟩
  case round =>
    obtain ⟨k, hk, rfl, ho, hbel⟩ := hrel
    have HO := Lib.hid ho
    have HW := Lib.hid hbel
    have hsz := hbel.size
    clear ho hbel HZ HB hmk
    by_cases hlt : k < n
    · obtain ⟨g, o, v, rfl, hg, hv, hok, b0, b1, b2⟩ := (H.out.below HW.out).at_ hlt
      have hst := Lib.hid (mk_step hv)
      obtain ⟨vk, vn, vs'⟩ := v
      simp only at b0 b1 b2 hst
      clear hv hok
      by_cases h0 : vk = 0
      · subst h0
        have HO2 := HO.out.alloc (.cells #[.int .i64 0, .int .i64 vn, .string vs'] 40)
        obtain ⟨q, hq⟩ : ∃ q, q = k / 8 := ⟨_, rfl⟩
        have hqm : q < m := by rw [hq]; exact hq8 k hlt
        obtain ⟨g2, cap, e, hS, hc, hf, hset⟩ := HO2.cell_at hqm
        injection e with e1 e2 e3
        injection e1 with e1
        injection e1 with e1
        subst e1 e3
        have hMO := Lib.hid (fun W => markOf_any k W)
        have hx := mk_byte vs k q
        have hy := pow8 k
        have h1 : (k : Int) / 8 = (q : Int) := by omega
        have h2 : (k : Int).tdiv 8 = (q : Int) := by rw [quo8, hq]
        have hwq : IntKind.i64.wrap (q : Int) = (q : Int) := IntWalk.i64_in _ (by omega)
        have hcd : (wr.alloc (.cells #[.int .i64 0, .int .i64 vn, .string vs'] 40)).drew.cell? ⟨w.heap.size, q, none⟩ = _ := hc
        have hfd : (wr.alloc (.cells #[.int .i64 0, .int .i64 vn, .string vs'] 40)).drew.frozen? ⟨w.heap.size, q, none⟩ = false := hf
        have HST : Hid (mk vs (k + 1) = (mk vs k).set q ((mk vs k).getD q 0 ||| 2 ^ (k % 8))) := by show _ = _; rw [hst.out, if_pos rfl, hq]
        have hor := or_u8 _ _ hx hy
        have hlt2 : (mk vs k).getD q 0 ||| 2 ^ (k % 8) < 256 := Nat.or_lt_two_pow (n := 8) hx hy
        have HSET := Lib.hid (hset _ hlt2)
        generalize 2 ^ (k % 8) = y at *
        generalize (mk vs k).getD q 0 = x at *
        generalize x ||| y = z at *
        have HBN := Lib.hid ((HW.out.alloc hsz (.cells #[.int .i64 0, .int .i64 vn, .string vs'] 40)).setCell (p := ⟨w.heap.size, q, none⟩) (Nat.le_refl _) (.int .u8 (z : Int)))
        clear HO2 hset hq hx hy hq8
        go_wp2_with fail
        go_region_with (go_at_call 56; refine (hMO.out _).mono ?_; rintro e w1 ⟨rfl, rfl⟩)
        all_goals
          go_wp2
          go_roundw
          case rel => exact ⟨k + 1, by omega, by go_num, by rw [HST.out]; exact Ow.drew HSET.out, HBN.out.drew⟩
          case measure => simp [intOf]; omega
      · have hz1 : (vk == 0) = false := beq_false_of_ne h0
        have HST : Hid (mk vs (k + 1) = mk vs k) := by show _ = _; rw [hst.out, if_neg h0]
        go_wp2
        go_roundw
        case rel => exact ⟨k + 1, by omega, by go_num, by rw [HST.out]; exact HO.out.alloc _, HW.out.alloc hsz _⟩
        case measure => simp [intOf]; omega
    · obtain rfl : k = n := by omega
      go_wp2
      go_ret
      refine ⟨_, rfl, ?_, HW.out⟩
      unfold marks
      rw [HL.out, mk_len, HME.out]
      exact HO.out
end Go.Proofs.Ytiilhnedflmgoaa
