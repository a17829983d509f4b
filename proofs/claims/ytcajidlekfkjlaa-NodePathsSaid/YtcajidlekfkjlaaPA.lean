/-
THE WALKS OF mayData, mayCell, Size both, Compare.
-/
import Derived.Test.YtcajidlekfkjlaaPWords
import Derived.Lib.BytesEntry
namespace Go.Proofs.Ytcajidlekfkjlaa
open Go.RowKit

set_option maxRecDepth 100000 in
theorem mayData_any (A : Option Addr) (n c : Nat) (w : World) : Calls Try.prog 94 #[.slice A n c] w fun e w' => e = .returned (.bool (decide (1 ≤ n) && decide (n ≤ 180))) ∧ w = w' := by
  by_cases h1 : 1 ≤ n
  · have d1 : decide ((n : Int) ≥ 1) = true := decide_eq_true (by omega)
    have d2 : decide ((n : Int) ≤ 180) = decide (n ≤ 180) := by rw [decide_eq_decide]; omega
    have d3 : decide (1 ≤ n) = true := decide_eq_true h1
    rw [d3, Bool.true_and]
    clear h1
    go_enter Try.func94, Try.ntmps94
    go_wp2
    go_ret
    exact ⟨rfl, rfl⟩
  · have d1 : decide ((n : Int) ≥ 1) = false := decide_eq_false (by omega)
    have d3 : decide (1 ≤ n) = false := decide_eq_false h1
    rw [d3, Bool.false_and]
    clear h1
    go_enter Try.func94, Try.ntmps94
    go_wp2
    go_ret
    exact ⟨rfl, rfl⟩
set_option maxRecDepth 100000 in
theorem mayCell_any (x : CV) (w : World) (hm : x.d.length = x.m) : Calls Try.prog 81 #[x.agg] w fun e w' => e = .returned (.bool (cmay x.e)) ∧ Below w.heap.size w w' := by
  obtain ⟨u, k, A, m, c, d⟩ := x
  simp only at hm
  have HM := Lib.hid (mayData_any A m c)
  have hbx : Below w.heap.size w (w.alloc (.cells #[.bool u, .int .u32 (k : Int), .slice A m c] 48)) := (Below.refl _ _).alloc (Nat.le_refl _) _
  have HB := Lib.hid hbx
  clear hbx
  have hc : cmay (CV.e ⟨u, k, A, m, c, d⟩) = if u then decide (1 ≤ m) && decide (m ≤ 180) else k == 0 && m == 0 := by subst hm; rfl
  rw [hc]
  simp only [CV.agg]
  clear hm hc
  cases u with
  | true =>
    go_enter Try.func81, Try.ntmps81
    go_wp2_with (go_at_call 94; refine (HM.out _).mono ?_; rintro e w' ⟨rfl, rfl⟩)
    go_ret
    exact ⟨rfl, HB.out⟩
  | false =>
    by_cases hk : k = 0
    · have d1 : ((k : Int) == 0) = true := by rw [beq_iff_eq]; omega
      have d2 : (k == 0) = true := by rw [beq_iff_eq]; exact hk
      have d3 : ((m : Int) == 0) = (m == 0) := by rw [Bool.eq_iff_iff, beq_iff_eq, beq_iff_eq]; omega
      rw [d2]
      clear hk d2
      go_enter Try.func81, Try.ntmps81
      go_wp2_with fail
      go_ret
      exact ⟨by simp, HB.out⟩
    · have d1 : ((k : Int) == 0) = false := beq_false_of_ne (by omega)
      have d2 : (k == 0) = false := beq_false_of_ne hk
      rw [d2]
      clear hk d2
      go_enter Try.func81, Try.ntmps81
      go_wp2_with fail
      go_ret
      exact ⟨by simp, HB.out⟩

set_option maxRecDepth 100000 in
theorem size_any (p : PV) (w : World) (h : p.In w All All) (hl : ∀ x ∈ p.l, x.m ≤ 9223372036854) (hn : p.n ≤ 20001) : Calls Try.prog 82 #[p.agg] w fun e w' => e = .returned (.int .i64 (psz p.es : Int)) ∧ Below w.heap.size w w' := by
  obtain ⟨pk, ps, px, A, n, c, l⟩ := p
  have hr := h.r
  simp only at hr hn
  have hlen := hr.1
  have hz := psz_le 9223372036854 (l.map CV.e) (by
    intro y hy
    obtain ⟨x, hx, rfl⟩ := List.mem_map.1 hy
    have := hl x hx
    rw [← (hr.2.1 x hx).len] at this
    exact this)
  rw [List.length_map, hlen] at hz
  have HR := Lib.hid hr
  have HML := Lib.hid hl
  have HZ := Lib.hid hz
  have hn2 := hn
  have HBW : Hid (Below w.heap.size w (w.alloc (.cells #[.int .i64 pk, .int .u64 (ps : Int), .int .u32 (px : Int), .slice A n c] 51))) := (Below.refl _ _).alloc (Nat.le_refl _) _
  obtain ⟨W, hW⟩ : ∃ W, W = w.alloc (.cells #[.int .i64 pk, .int .u64 (ps : Int), .int .u32 (px : Int), .slice A n c] 51) := ⟨_, rfl⟩
  rw [← hW] at HBW
  have hb : Blk W w.heap.size 51 #[.int .i64 pk, .int .u64 (ps : Int), .int .u32 (px : Int), .slice A n c] := by rw [hW]; exact Blk.new w 51 _
  have x3 := hb.cell 3
  simp only [List.getElem?_toArray, List.getElem?_cons_zero, List.getElem?_cons_succ] at x3
  have HL := Lib.hid hlen
  clear h hr hl hz hb hlen
  replace hW := hW.symm
  simp only [PV.agg, PV.es]
  go_enter Try.func82, Try.ntmps82
  go_wp2
  go_loopw [3, 9] (fun s i wr => ∃ k : Nat, k ≤ n ∧ i = .int .i64 (k : Int) ∧ s = .int .i64 (psz ((l.map CV.e).take k) : Int) ∧ Below w.heap.size w wr) (fun _ i _ => n - (intOf i).toNat)
  case atStart => exact ⟨0, by omega, rfl, rfl, HBW.out⟩
  case round =>
    obtain ⟨k, hk, rfl, rfl, hbel⟩ := hrel
    have HB := Lib.hid hbel
    have hsz := hbel.size
    obtain ⟨q, hq⟩ : ∃ q, q = psz ((l.map CV.e).take k) := ⟨_, rfl⟩
    rw [← hq]
    have hqz : q ≤ 18 + k * (6 + 9223372036854) := by
      have := psz_le 9223372036854 ((l.map CV.e).take k) (by
        intro y hy
        obtain ⟨x, hx, rfl⟩ := List.mem_map.1 (List.mem_of_mem_take hy)
        have := HML.out x hx
        rw [← (HR.out.2.1 x hx).len] at this
        exact this)
      rw [← hq, List.length_take, List.length_map, HL.out] at this
      have h2 : min k n ≤ k := Nat.min_le_left _ _
      have h3 := Nat.mul_le_mul_right (6 + 9223372036854) h2
      exact Nat.le_trans this (Nat.add_le_add_left h3 18)
    have HQ := Lib.hid hq
    clear hbel hq
    by_cases hlt : k < n
    · obtain ⟨g, o, x, rfl, hg, _, hx, hxi, b0, b1, b2⟩ := (HR.out.below HB.out).at_ hlt
      obtain ⟨u, kk, xA, m, xc, d⟩ := x
      have hm := HML.out _ (List.mem_of_getElem? hx)
      have hstep := psz_take (es_at hx)
      rw [← HQ.out] at hstep
      have hcs : csz (CV.e ⟨u, kk, xA, m, xc, d⟩) = if u then 6 + m else 2 := by have := hxi.len; simp only at this; subst this; rfl
      rw [hcs] at hstep
      simp only at b0 b1 b2 hm
      have HB2 := Lib.hid (HB.out.alloc hsz (.cells #[.bool u, .int .u32 (kk : Int), .slice xA m xc] 48))
      have hWi : IntKind.i64.wrap ((k : Int) + 1) = ((k + 1 : Nat) : Int) := by rw [IntWalk.i64_in _ (by omega)]; omega
      have hin : ((k : Int) < (n : Int)) := by omega
      clear hx hxi hcs
      cases u with
      | true =>
        have e6 : IntKind.i64.wrap (6 + (m : Int)) = ((6 + m : Nat) : Int) := by rw [IntWalk.i64_in _ (by omega)]; omega
        have e7 : IntKind.i64.wrap ((q : Int) + ((6 + m : Nat) : Int)) = ((q + (6 + m) : Nat) : Int) := by rw [IntWalk.i64_in _ (by omega)]; omega
        have HS := Lib.hid (show psz ((l.map CV.e).take (k + 1)) = q + (6 + m) from hstep)
        clear hstep
        go_wp2_with fail
        go_roundw
        case rel => exact ⟨k + 1, by omega, by go_num, by rw [HS.out]; go_num, HB2.out⟩
        case measure => simp [intOf]; omega
      | false =>
        have e7 : IntKind.i64.wrap ((q : Int) + 2) = ((q + 2 : Nat) : Int) := by rw [IntWalk.i64_in _ (by omega)]; omega
        have HS := Lib.hid (show psz ((l.map CV.e).take (k + 1)) = q + 2 from hstep)
        clear hstep
        go_wp2_with fail
        go_roundw
        case rel => exact ⟨k + 1, by omega, by go_num, by rw [HS.out]; go_num, HB2.out⟩
        case measure => simp [intOf]; omega
    · have h1d : decide ((k : Int) < (n : Int)) = false := decide_eq_false (by omega)
      have h1d2 : decide (k < n) = false := decide_eq_false hlt
      have HS := Lib.hid (show psz (l.map CV.e) = q by rw [HQ.out, List.take_of_length_le (by rw [List.length_map, HL.out]; omega)])
      go_wp2
      go_ret
      exact ⟨by rw [HS.out]; rfl, HB.out⟩
set_option maxRecDepth 100000 in
theorem rsize_any (p : PV) (w : World) (h : p.In w All All) (hl : ∀ x ∈ p.l, x.m ≤ 9223372036854) (hn : p.n ≤ 20001) : Calls Try.prog 74 #[p.agg] w fun e w' => e = .returned (.int .i64 (psz p.es : Int)) ∧ Below w.heap.size w w' := by
  obtain ⟨pk, ps, px, A, n, c, l⟩ := p
  have hr := h.r
  simp only at hr hn
  have hlen := hr.1
  have HML := Lib.hid hl
  have HBW : Hid (Below w.heap.size w (w.alloc (.cells #[.int .i64 pk, .int .u64 (ps : Int), .int .u32 (px : Int), .slice A n c] 51))) := (Below.refl _ _).alloc (Nat.le_refl _) _
  obtain ⟨W, hW⟩ : ∃ W, W = w.alloc (.cells #[.int .i64 pk, .int .u64 (ps : Int), .int .u32 (px : Int), .slice A n c] 51) := ⟨_, rfl⟩
  rw [← hW] at HBW
  have hb : Blk W w.heap.size 51 #[.int .i64 pk, .int .u64 (ps : Int), .int .u32 (px : Int), .slice A n c] := by rw [hW]; exact Blk.new w 51 _
  have x3 := hb.cell 3
  simp only [List.getElem?_toArray, List.getElem?_cons_zero, List.getElem?_cons_succ] at x3
  have HR := Lib.hid (hr.below HBW.out)
  have HL := Lib.hid hlen
  clear h hr hl hb hlen
  replace hW := hW.symm
  simp only [PV.agg, PV.es]
  go_enter Try.func74, Try.ntmps74
  go_wp2
  go_loopw [3, 4] (fun s i wr => ∃ k : Nat, k ≤ n ∧ i = .int .i64 (k : Int) ∧ s = .int .i64 (psz ((l.map CV.e).take k) : Int) ∧ W = wr) (fun _ i _ => n - (intOf i).toNat)
  case atStart => exact ⟨0, by omega, rfl, rfl, rfl⟩
  case round =>
    obtain ⟨k, hk, rfl, rfl, rfl⟩ := hrel
    obtain ⟨q, hq⟩ : ∃ q, q = psz ((l.map CV.e).take k) := ⟨_, rfl⟩
    rw [← hq]
    have hqz : q ≤ 18 + k * (6 + 9223372036854) := by
      have := psz_le 9223372036854 ((l.map CV.e).take k) (by
        intro y hy
        obtain ⟨x, hx, rfl⟩ := List.mem_map.1 (List.mem_of_mem_take hy)
        have := HML.out x hx
        rw [← (HR.out.2.1 x hx).len] at this
        exact this)
      rw [← hq, List.length_take, List.length_map, HL.out] at this
      have h2 : min k n ≤ k := Nat.min_le_left _ _
      have h3 := Nat.mul_le_mul_right (6 + 9223372036854) h2
      exact Nat.le_trans this (Nat.add_le_add_left h3 18)
    have HQ := Lib.hid hq
    clear hq
    by_cases hlt : k < n
    · obtain ⟨g, o, x, rfl, hg, _, hx, hxi, b0, b1, b2⟩ := HR.out.at_ hlt
      obtain ⟨u, kk, xA, m, xc, d⟩ := x
      have hm := HML.out _ (List.mem_of_getElem? hx)
      have hstep := psz_take (es_at hx)
      rw [← HQ.out] at hstep
      have hcs : csz (CV.e ⟨u, kk, xA, m, xc, d⟩) = if u then 6 + m else 2 := by have := hxi.len; simp only at this; subst this; rfl
      rw [hcs] at hstep
      simp only at b0 b1 b2 hm
      have hWi : IntKind.i64.wrap ((k : Int) + 1) = ((k + 1 : Nat) : Int) := by rw [IntWalk.i64_in _ (by omega)]; omega
      have hin : ((k : Int) < (n : Int)) := by omega
      clear hx hxi hcs
      cases u with
      | true =>
        have e6 : IntKind.i64.wrap ((q : Int) + 6) = ((q + 6 : Nat) : Int) := by rw [IntWalk.i64_in _ (by omega)]; omega
        have e7 : IntKind.i64.wrap (((q + 6 : Nat) : Int) + (m : Int)) = ((q + (6 + m) : Nat) : Int) := by rw [IntWalk.i64_in _ (by omega)]; omega
        have HS := Lib.hid (show psz ((l.map CV.e).take (k + 1)) = q + (6 + m) from hstep)
        clear hstep
        go_wp2_with fail
        go_roundw
        case rel => exact ⟨k + 1, by omega, by go_num, by rw [HS.out]; go_num, by first | rfl | trivial⟩
        case measure => simp [intOf]; omega
      | false =>
        have e7 : IntKind.i64.wrap ((q : Int) + 2) = ((q + 2 : Nat) : Int) := by rw [IntWalk.i64_in _ (by omega)]; omega
        have HS := Lib.hid (show psz ((l.map CV.e).take (k + 1)) = q + 2 from hstep)
        clear hstep
        go_wp2_with fail
        go_roundw
        case rel => exact ⟨k + 1, by omega, by go_num, by rw [HS.out]; go_num, by first | rfl | trivial⟩
        case measure => simp [intOf]; omega
    · have h1d : decide ((k : Int) < (n : Int)) = false := decide_eq_false (by omega)
      have h1d2 : decide (k < n) = false := decide_eq_false hlt
      have HS := Lib.hid (show psz (l.map CV.e) = q by rw [HQ.out, List.take_of_length_le (by rw [List.length_map, HL.out]; omega)])
      go_wp2
      go_ret
      exact ⟨by rw [HS.out]; rfl, HBW.out⟩

/-- the order of bytes, as a number -/
def cmpN (a b : List Nat) : Int := Lib.compareBytes (u8l a) (u8l b)
set_option maxRecDepth 100000 in
theorem cmpN_ge (a b : List Nat) : decide (cmpN a b ≥ 0) = !ltb a b := cmp_ge _ _
set_option maxRecDepth 100000 in
theorem run_bytesOf {T : Nat → Prop} {A : Option Addr} {n c : Nat} {l : List Nat} {w : World} (h : RB w T A n l) : (Extern.Bytes.bytesOf (.slice A n c)).run Try.prog w = .ok (strOf l) w := by
  obtain ⟨hl, hx, h3⟩ := h
  rcases A with _ | ad
  · have hn : n = 0 := by
      rcases Nat.eq_zero_or_pos n with h0 | h0
      · exact h0
      · obtain ⟨_, e, _⟩ := h3 h0
        cases e
    subst hn
    have : l = [] := List.eq_nil_of_length_eq_zero hl
    subst this
    rfl
  · have := Lib.run_loadBytesX (P := Try.prog) w (l.map fun x : Nat => (x : Int)) ad .empty (fun j x hj => by
      have hjl : j < l.length := by
        rcases Nat.lt_or_ge j l.length with h | h
        · exact h
        · simp [List.getElem?_eq_none h] at hj
      obtain ⟨ad', e, _, _, hc⟩ := h3 (by omega)
      cases e
      rw [hc j (by omega)]
      simp [List.getElem?_eq_getElem hjl] at hj
      subst hj
      simp [hjl])
    rw [List.length_map, hl] at this
    change (Extern.Bytes.loadBytes ad n .empty).run Try.prog w = _
    rw [this]
    congr 1
    apply ByteArray.ext
    show (#[] : Array UInt8) ++ (Lib.bytesOf _).toArray = _
    simp only [Array.empty_append, Lib.bytesOf, List.map_map, strOf]
    congr 1
set_option maxRecDepth 100000 in
theorem compare_any {T T' : Nat → Prop} (A : Option Addr) (n c : Nat) (l : List Nat) (A' : Option Addr) (n' c' : Nat) (l' : List Nat) (w : World) (h : RB w T A n l) (h' : RB w T' A' n' l') :
    Calls Try.prog 72 #[.slice A n c, .slice A' n' c'] w fun e w' => e = .returned (.int .i64 (cmpN l l')) ∧ w = w' := by
  have hrun : (Extern.BytealgCompare.compare #[.slice A n c, .slice A' n' c']).run Try.prog w = .ok (.int .i64 (cmpN l l')) w := by
    change Sem.run Try.prog (do pure (goInt (Extern.BytealgCompare.cmp (← Extern.Bytes.bytesOf (.slice A n c)) (← Extern.Bytes.bytesOf (.slice A' n' c'))))) w = _
    simp only [Sem.run_bind, Sem.run_pure, run_bytesOf h, run_bytesOf h', Result.andThen_ok, Lib.cmp_eq]
    simp [cmpN, strOf, u8l, goInt]
  have HR := Lib.hid hrun
  clear hrun h h'
  go_enter Try.func72, Try.ntmps72
  go_wp2
  rw [run_callFunc_extern Try.func86 (by kernel_rfl) (by kernel_rfl) (by kernel_rfl) (e := Extern.BytealgCompare.compare) (by kernel_rfl), HR.out]
  simp only [Result.andThen]
  rw [Oper.upon_value]
  go_wp2
  go_ret
  exact ⟨rfl, rfl⟩
end Go.Proofs.Ytcajidlekfkjlaa
