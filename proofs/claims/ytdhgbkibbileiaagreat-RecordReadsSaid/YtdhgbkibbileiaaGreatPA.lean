/-
PA PB PC
-/
import Derived.Test.YtdhgbkibbileiaaGreatPWords
import Derived.Lib.BytesEntry
import Derived.BigQuiet
import Derived.Lib.QuietBelow
set_option maxRecDepth 100000
namespace Go.Proofs.YtdhgbkibbileiaaGreat
open Go.RowKit
theorem mayData_any (A : Option Addr) (n c : Nat) (w : World) : Calls Tryz.prog 130 #[.slice A n c] w fun e w' => e = .returned (.bool (decide (1 ≤ n) && decide (n ≤ 180))) ∧ w = w' := by
 by_cases h1 : 1 ≤ n
 ·have d1 : decide ((n : Int) ≥ 1) = true := decide_eq_true (by omega)
  have d2 : decide ((n : Int) ≤ 180) = decide (n ≤ 180) := by rw [decide_eq_decide]; omega
  have d3 : decide (1 ≤ n) = true := decide_eq_true h1
  rw [d3, Bool.true_and]
  clear h1
  go_enter Tryz.func130, Tryz.ntmps130
  go_wp2
  go_ret
  exact ⟨rfl, rfl⟩
 ·have d1 : decide ((n : Int) ≥ 1) = false := decide_eq_false (by omega)
  have d3 : decide (1 ≤ n) = false := decide_eq_false h1
  rw [d3, Bool.false_and]
  clear h1
  go_enter Tryz.func130, Tryz.ntmps130
  go_wp2
  go_ret
  exact ⟨rfl, rfl⟩
theorem mayCell_any (x : CV) (w : World) (hm : x.d.length = x.m) : Calls Tryz.prog 131 #[x.agg] w fun e w' => e = .returned (.bool (cmay x.e)) ∧ Below w.heap.size w w' := by
 obtain ⟨u, k, A, m, c, d⟩ := x
 simp only at hm
 have HM := Lib.hid (mayData_any A m c)
 have hbx : Below w.heap.size w (w.alloc (.cells #[.bool u, .int .u32 (k : Int), .slice A m c] 55)) := (Below.refl _ _).alloc (Nat.le_refl _) _
 have HB := Lib.hid hbx
 clear hbx
 have hc : cmay (CV.e ⟨u, k, A, m, c, d⟩) = if u then decide (1 ≤ m) && decide (m ≤ 180) else k == 0 && m == 0 := by subst hm; rfl
 rw [hc]
 simp only [CV.agg]
 clear hm hc
 cases u with
 | true =>
   go_enter Tryz.func131, Tryz.ntmps131
   go_wp2_with (go_at_call 130; refine (HM.out _).mono ?_; rintro e w' ⟨rfl, rfl⟩)
   go_ret
   exact ⟨rfl, HB.out⟩
 | false =>
   by_cases hk : k = 0
   ·have d1 : ((k : Int) == 0) = true := by rw [beq_iff_eq]; omega
    have d2 : (k == 0) = true := by rw [beq_iff_eq]; exact hk
    have d3 : ((m : Int) == 0) = (m == 0) := by rw [Bool.eq_iff_iff, beq_iff_eq, beq_iff_eq]; omega
    rw [d2]
    clear hk d2
    go_enter Tryz.func131, Tryz.ntmps131
    go_wp2_with fail
    go_ret
    exact ⟨by simp, HB.out⟩
   ·have d1 : ((k : Int) == 0) = false := beq_false_of_ne (by omega)
    have d2 : (k == 0) = false := beq_false_of_ne hk
    rw [d2]
    clear hk d2
    go_enter Tryz.func131, Tryz.ntmps131
    go_wp2_with fail
    go_ret
    exact ⟨by simp, HB.out⟩
theorem size_any (p : PV) (w : World) (h : p.In w All All) (hl : ∀ x ∈ p.l, x.m ≤ 9223372036854) (hn : p.n ≤ 20001) : Calls Tryz.prog 132 #[p.agg] w fun e w' => e = .returned (.int .i64 (psz p.es : Int)) ∧ Below w.heap.size w w' := by
 obtain ⟨pk, ps, px, A, n, c, l⟩ := p
 have hr := h.r
 simp only at hr hn
 have hlen := hr.1
 have hz := psz_le 9223372036854 (l.map CV.e) (by
  intro y hy
  obtain ⟨x, hx, rfl⟩ := List.mem_map.1 hy
  have := hl x hx
  rw [← (hr.2.1 x hx).len] at this
  exact this)
 rw [List.length_map, hlen] at hz
 have HR := Lib.hid hr
 have HML := Lib.hid hl
 have HZ := Lib.hid hz
 have hn2 := hn
 have HBW : Hid (Below w.heap.size w (w.alloc (.cells #[.int .i64 pk, .int .u64 (ps : Int), .int .u32 (px : Int), .slice A n c] 51))) := (Below.refl _ _).alloc (Nat.le_refl _) _
 obtain ⟨W, hW⟩ : ∃ W, W = w.alloc (.cells #[.int .i64 pk, .int .u64 (ps : Int), .int .u32 (px : Int), .slice A n c] 51) := ⟨_, rfl⟩
 rw [← hW] at HBW
 have hb : Blk W w.heap.size 51 #[.int .i64 pk, .int .u64 (ps : Int), .int .u32 (px : Int), .slice A n c] := by rw [hW]; exact Blk.new w 51 _
 have x3 := hb.cell 3
 simp only [List.getElem?_toArray, List.getElem?_cons_zero, List.getElem?_cons_succ] at x3
 have HL := Lib.hid hlen
 clear h hr hl hz hb hlen
 replace hW := hW.symm
 simp only [PV.agg, PV.es]
 go_enter Tryz.func132, Tryz.ntmps132
 go_wp2
 go_loopw [3, 9] (fun s i wr => ∃ k : Nat, k ≤ n ∧ i = .int .i64 (k : Int) ∧ s = .int .i64 (psz ((l.map CV.e).take k) : Int) ∧ Below w.heap.size w wr) (fun _ i _ => n - (intOf i).toNat)
 case atStart => exact ⟨0, by omega, rfl, rfl, HBW.out⟩
 case round =>
  obtain ⟨k, hk, rfl, rfl, hbel⟩ := hrel
  have HB := Lib.hid hbel
  have hsz := hbel.size
  obtain ⟨q, hq⟩ : ∃ q, q = psz ((l.map CV.e).take k) := ⟨_, rfl⟩
  rw [← hq]
  have hqz : q ≤ 18 + k * (6 + 9223372036854) := by
   have := psz_le 9223372036854 ((l.map CV.e).take k) (by
    intro y hy
    obtain ⟨x, hx, rfl⟩ := List.mem_map.1 (List.mem_of_mem_take hy)
    have := HML.out x hx
    rw [← (HR.out.2.1 x hx).len] at this
    exact this)
   rw [← hq, List.length_take, List.length_map, HL.out] at this
   have h2 : min k n ≤ k := Nat.min_le_left _ _
   have h3 := Nat.mul_le_mul_right (6 + 9223372036854) h2
   exact Nat.le_trans this (Nat.add_le_add_left h3 18)
  have HQ := Lib.hid hq
  clear hbel hq
  by_cases hlt : k < n
  ·obtain ⟨g, o, x, rfl, hg, _, hx, hxi, b0, b1, b2⟩ := (HR.out.below HB.out).at_ hlt
   obtain ⟨u, kk, xA, m, xc, d⟩ := x
   have hm := HML.out _ (List.mem_of_getElem? hx)
   have hstep := psz_take (es_at hx)
   rw [← HQ.out] at hstep
   have hcs : csz (CV.e ⟨u, kk, xA, m, xc, d⟩) = if u then 6 + m else 2 := by have := hxi.len; simp only at this; subst this; rfl
   rw [hcs] at hstep
   simp only at b0 b1 b2 hm
   have HB2 := Lib.hid (HB.out.alloc hsz (.cells #[.bool u, .int .u32 (kk : Int), .slice xA m xc] 55))
   have hWi : IntKind.i64.wrap ((k : Int) + 1) = ((k + 1 : Nat) : Int) := by rw [IntWalk.i64_in _ (by omega)]; omega
   have hin : ((k : Int) < (n : Int)) := by omega
   clear hx hxi hcs
   cases u with
   | true =>
     have e6 : IntKind.i64.wrap (6 + (m : Int)) = ((6 + m : Nat) : Int) := by rw [IntWalk.i64_in _ (by omega)]; omega
     have e7 : IntKind.i64.wrap ((q : Int) + ((6 + m : Nat) : Int)) = ((q + (6 + m) : Nat) : Int) := by rw [IntWalk.i64_in _ (by omega)]; omega
     have HS := Lib.hid (show psz ((l.map CV.e).take (k + 1)) = q + (6 + m) from hstep)
     clear hstep
     go_wp2_with fail
     go_roundw
     case rel => exact ⟨k + 1, by omega, by go_num, by rw [HS.out]; go_num, HB2.out⟩
     case measure => simp [intOf]; omega
   | false =>
     have e7 : IntKind.i64.wrap ((q : Int) + 2) = ((q + 2 : Nat) : Int) := by rw [IntWalk.i64_in _ (by omega)]; omega
     have HS := Lib.hid (show psz ((l.map CV.e).take (k + 1)) = q + 2 from hstep)
     clear hstep
     go_wp2_with fail
     go_roundw
     case rel => exact ⟨k + 1, by omega, by go_num, by rw [HS.out]; go_num, HB2.out⟩
     case measure => simp [intOf]; omega
  ·have h1d : decide ((k : Int) < (n : Int)) = false := decide_eq_false (by omega)
   have h1d2 : decide (k < n) = false := decide_eq_false hlt
   have HS := Lib.hid (show psz (l.map CV.e) = q by rw [HQ.out, List.take_of_length_le (by rw [List.length_map, HL.out]; omega)])
   go_wp2
   go_ret
   exact ⟨by rw [HS.out]; rfl, HB.out⟩
theorem rsize_any (p : PV) (w : World) (h : p.In w All All) (hl : ∀ x ∈ p.l, x.m ≤ 9223372036854) (hn : p.n ≤ 20001) : Calls Tryz.prog 49 #[p.agg] w fun e w' => e = .returned (.int .i64 (psz p.es : Int)) ∧ Below w.heap.size w w' := by
 obtain ⟨pk, ps, px, A, n, c, l⟩ := p
 have hr := h.r
 simp only at hr hn
 have hlen := hr.1
 have HML := Lib.hid hl
 have HBW : Hid (Below w.heap.size w (w.alloc (.cells #[.int .i64 pk, .int .u64 (ps : Int), .int .u32 (px : Int), .slice A n c] 51))) := (Below.refl _ _).alloc (Nat.le_refl _) _
 obtain ⟨W, hW⟩ : ∃ W, W = w.alloc (.cells #[.int .i64 pk, .int .u64 (ps : Int), .int .u32 (px : Int), .slice A n c] 51) := ⟨_, rfl⟩
 rw [← hW] at HBW
 have hb : Blk W w.heap.size 51 #[.int .i64 pk, .int .u64 (ps : Int), .int .u32 (px : Int), .slice A n c] := by rw [hW]; exact Blk.new w 51 _
 have x3 := hb.cell 3
 simp only [List.getElem?_toArray, List.getElem?_cons_zero, List.getElem?_cons_succ] at x3
 have HR := Lib.hid (hr.below HBW.out)
 have HL := Lib.hid hlen
 clear h hr hl hb hlen
 replace hW := hW.symm
 simp only [PV.agg, PV.es]
 go_enter Tryz.func49, Tryz.ntmps49
 go_wp2
 go_loopw [3, 4] (fun s i wr => ∃ k : Nat, k ≤ n ∧ i = .int .i64 (k : Int) ∧ s = .int .i64 (psz ((l.map CV.e).take k) : Int) ∧ W = wr) (fun _ i _ => n - (intOf i).toNat)
 case atStart => exact ⟨0, by omega, rfl, rfl, rfl⟩
 case round =>
  obtain ⟨k, hk, rfl, rfl, rfl⟩ := hrel
  obtain ⟨q, hq⟩ : ∃ q, q = psz ((l.map CV.e).take k) := ⟨_, rfl⟩
  rw [← hq]
  have hqz : q ≤ 18 + k * (6 + 9223372036854) := by
   have := psz_le 9223372036854 ((l.map CV.e).take k) (by
    intro y hy
    obtain ⟨x, hx, rfl⟩ := List.mem_map.1 (List.mem_of_mem_take hy)
    have := HML.out x hx
    rw [← (HR.out.2.1 x hx).len] at this
    exact this)
   rw [← hq, List.length_take, List.length_map, HL.out] at this
   have h2 : min k n ≤ k := Nat.min_le_left _ _
   have h3 := Nat.mul_le_mul_right (6 + 9223372036854) h2
   exact Nat.le_trans this (Nat.add_le_add_left h3 18)
  have HQ := Lib.hid hq
  clear hq
  by_cases hlt : k < n
  ·obtain ⟨g, o, x, rfl, hg, _, hx, hxi, b0, b1, b2⟩ := HR.out.at_ hlt
   obtain ⟨u, kk, xA, m, xc, d⟩ := x
   have hm := HML.out _ (List.mem_of_getElem? hx)
   have hstep := psz_take (es_at hx)
   rw [← HQ.out] at hstep
   have hcs : csz (CV.e ⟨u, kk, xA, m, xc, d⟩) = if u then 6 + m else 2 := by have := hxi.len; simp only at this; subst this; rfl
   rw [hcs] at hstep
   simp only at b0 b1 b2 hm
   have hWi : IntKind.i64.wrap ((k : Int) + 1) = ((k + 1 : Nat) : Int) := by rw [IntWalk.i64_in _ (by omega)]; omega
   have hin : ((k : Int) < (n : Int)) := by omega
   clear hx hxi hcs
   cases u with
   | true =>
     have e6 : IntKind.i64.wrap ((q : Int) + 6) = ((q + 6 : Nat) : Int) := by rw [IntWalk.i64_in _ (by omega)]; omega
     have e7 : IntKind.i64.wrap (((q + 6 : Nat) : Int) + (m : Int)) = ((q + (6 + m) : Nat) : Int) := by rw [IntWalk.i64_in _ (by omega)]; omega
     have HS := Lib.hid (show psz ((l.map CV.e).take (k + 1)) = q + (6 + m) from hstep)
     clear hstep
     go_wp2_with fail
     go_roundw
     case rel => exact ⟨k + 1, by omega, by go_num, by rw [HS.out]; go_num, by first | rfl | trivial⟩
     case measure => simp [intOf]; omega
   | false =>
     have e7 : IntKind.i64.wrap ((q : Int) + 2) = ((q + 2 : Nat) : Int) := by rw [IntWalk.i64_in _ (by omega)]; omega
     have HS := Lib.hid (show psz ((l.map CV.e).take (k + 1)) = q + 2 from hstep)
     clear hstep
     go_wp2_with fail
     go_roundw
     case rel => exact ⟨k + 1, by omega, by go_num, by rw [HS.out]; go_num, by first | rfl | trivial⟩
     case measure => simp [intOf]; omega
  ·have h1d : decide ((k : Int) < (n : Int)) = false := decide_eq_false (by omega)
   have h1d2 : decide (k < n) = false := decide_eq_false hlt
   have HS := Lib.hid (show psz (l.map CV.e) = q by rw [HQ.out, List.take_of_length_le (by rw [List.length_map, HL.out]; omega)])
   go_wp2
   go_ret
   exact ⟨by rw [HS.out]; rfl, HBW.out⟩
def cmpN (a b : List Nat) : Int := Lib.compareBytes (u8l a) (u8l b)
theorem cmpN_ge (a b : List Nat) : decide (cmpN a b ≥ 0) = !ltb a b := cmp_ge _ _
theorem run_bytesOf {T : Nat → Prop} {A : Option Addr} {n c : Nat} {l : List Nat} {w : World} (h : RB w T A n l) : (Extern.Bytes.bytesOf (.slice A n c)).run Tryz.prog w = .ok (strOf l) w := by
 obtain ⟨hl, hx, h3⟩ := h
 rcases A with _ | ad
 ·have hn : n = 0 := by
   rcases Nat.eq_zero_or_pos n with h0 | h0
   ·exact h0
   ·obtain ⟨_, e, _⟩ := h3 h0
    cases e
  subst hn
  have : l = [] := List.eq_nil_of_length_eq_zero hl
  subst this
  rfl
 ·have := Lib.run_loadBytesX (P := Tryz.prog) w (l.map fun x : Nat => (x : Int)) ad .empty (fun j x hj => by
   have hjl : j < l.length := by
    rcases Nat.lt_or_ge j l.length with h | h
    ·exact h
    ·simp [List.getElem?_eq_none h] at hj
   obtain ⟨ad', e, _, _, hc⟩ := h3 (by omega)
   cases e
   rw [hc j (by omega)]
   simp [List.getElem?_eq_getElem hjl] at hj
   subst hj
   simp [hjl])
  rw [List.length_map, hl] at this
  change (Extern.Bytes.loadBytes ad n .empty).run Tryz.prog w = _
  rw [this]
  congr 1
  apply ByteArray.ext
  show (#[] : Array UInt8) ++ (Lib.bytesOf _).toArray = _
  simp only [Array.empty_append, Lib.bytesOf, List.map_map, strOf]
  congr 1
theorem compare_any {T T' : Nat → Prop} (A : Option Addr) (n c : Nat) (l : List Nat) (A' : Option Addr) (n' c' : Nat) (l' : List Nat) (w : World) (h : RB w T A n l) (h' : RB w T' A' n' l') :
  Calls Tryz.prog 138 #[.slice A n c, .slice A' n' c'] w fun e w' => e = .returned (.int .i64 (cmpN l l')) ∧ w = w' := by
 have hrun : (Extern.BytealgCompare.compare #[.slice A n c, .slice A' n' c']).run Tryz.prog w = .ok (.int .i64 (cmpN l l')) w := by
  change Sem.run Tryz.prog (do pure (goInt (Extern.BytealgCompare.cmp (← Extern.Bytes.bytesOf (.slice A n c)) (← Extern.Bytes.bytesOf (.slice A' n' c'))))) w = _
  simp only [Sem.run_bind, Sem.run_pure, run_bytesOf h, run_bytesOf h', Result.andThen_ok, Lib.cmp_eq]
  simp [cmpN, strOf, u8l, goInt]
 have HR := Lib.hid hrun
 clear hrun h h'
 go_enter Tryz.func138, Tryz.ntmps138
 go_wp2
 rw [run_callFunc_extern Tryz.func139 (by kernel_rfl) (by kernel_rfl) (by kernel_rfl) (e := Extern.BytealgCompare.compare) (by kernel_rfl), HR.out]
 simp only [Result.andThen]
 rw [Oper.upon_value]
 go_wp2
 go_ret
 exact ⟨rfl, rfl⟩
end Go.Proofs.YtdhgbkibbileiaaGreat
set_option maxRecDepth 100000
namespace Go.Proofs.YtdhgbkibbileiaaGreat
open Go.RowKit
theorem rise_any (A : Option Addr) (n c e : Nat) (l : List CV) (w : World) (h : CR w All All A n l) (hn : n ≤ 20001) (he : ∀ x ∈ l, x.u = true → e ≤ x.m ∧ 1 ≤ x.m) :
  Calls Tryz.prog 137 #[.slice A n c, .int .i64 (e : Int)] w fun q w' => q = .returned (.bool (rise e (l.map CV.e))) ∧ Below w.heap.size w w' := by
 have HR := Lib.hid h
 have HE := Lib.hid he
 have HL := Lib.hid h.1
 have HB0 := Lib.hid (Below.refl w.heap.size w)
 clear h he
 go_enter Tryz.func137, Tryz.ntmps137
 go_wp2
 go_loopw [5, 11] (fun z i wr => ∃ (k : Nat) (zA : Option Addr) (zm zc : Nat) (zl : List Nat), k ≤ n ∧ i = .int .i64 (k : Int) ∧ z = .slice zA zm zc ∧ (List.range k).all (okAt e (l.map CV.e)) = true ∧ RB w All zA zm zl ∧ (0 < k → zl = ent e ((l.map CV.e).getD (k - 1) cz).d) ∧ Below w.heap.size w wr) (fun _ i _ => n - (intOf i).toNat)
 case atStart => exact ⟨0, none, 0, 0, [], by omega, rfl, rfl, rfl, RB.nil_, fun h => by omega, HB0.out⟩
 case round =>
  obtain ⟨k, zA, zm, zc, zl, hk, rfl, rfl, hall, hz, hzl, hbel⟩ := hrel
  have HB := Lib.hid hbel
  have HA := Lib.hid hall
  have HZ := Lib.hid hz
  have HZL := Lib.hid hzl
  have hsz := hbel.size
  clear hbel hall hz hzl
  by_cases hlt : k < n
  ·obtain ⟨g, o, x, rfl, hg, _, hx, hxi, b0, b1, b2⟩ := (HR.out.below HB.out).at_ hlt
   have hxe := HE.out x (List.mem_of_getElem? hx)
   have hxi0 := HR.out.2.1 x (List.mem_of_getElem? hx)
   have hget := getD_at (es_at hx)
   obtain ⟨u, kk, xA, m, xc, d⟩ := x
   have hlen := hxi0.len
   have hmc := hxi0.mc
   have hml := hxi0.ml
   have HRB := Lib.hid hxi0.b
   simp only at b0 b1 b2 hxe hlen hmc hml HRB
   have HB2 := Lib.hid (HB.out.alloc hsz (.cells #[.bool u, .int .u32 (kk : Int), .slice xA m xc] 55))
   have hWi : IntKind.i64.wrap ((k : Int) + 1) = ((k + 1 : Nat) : Int) := by rw [IntWalk.i64_in _ (by omega)]; omega
   have hin : ((k : Int) < (n : Int)) := by omega
   have HG := Lib.hid hget
   clear hx hxi hxi0 hget
   cases u with
   | false =>
     have HN := Lib.hid (show rise e (l.map CV.e) = false from all_stop (k := k) (by rw [List.length_map, HL.out]; exact hlt) (by unfold okAt; rw [HG.out]; rfl))
     go_wp2_with fail
     go_ret
     exact ⟨by rw [HN.out]; rfl, HB2.out⟩
   | true =>
     obtain ⟨h1, h2⟩ := hxe rfl
     obtain ⟨ad, rfl, _⟩ := HRB.out.at_ (k := 0) (by omega)
     obtain ⟨j, hj⟩ : ∃ j, j = m - e := ⟨_, rfl⟩
     have hsub : IntKind.i64.wrap ((m : Int) - (e : Int)) = (j : Int) := by rw [IntWalk.i64_in _ (by omega)]; omega
     have hjc : j ≤ xc := by omega
     have hjm : j ≤ m := by omega
     have HRJ := Lib.hid (show RB w All (some ad) j (ent e d) by rw [ent, hlen, ← hj]; exact HRB.out.take hjm)
     have HEQ := Lib.hid (show ent e ((l.map CV.e).getD (k + 1 - 1) cz).d = ent e d by rw [Nat.add_sub_cancel, HG.out]; rfl)
     have HJ := Lib.hid hj
     clear hj hxe h1 h2
     by_cases hk0 : k = 0
     ·have d1 : decide ((k : Int) > 0) = false := decide_eq_false (by omega)
      have d2 : decide (0 < k) = false := decide_eq_false (by omega)
      have HOK := Lib.hid (all_step HA.out (show okAt e (l.map CV.e) k = true by unfold okAt; rw [HG.out, hk0]; rfl))
      clear hk0
      go_wp2_with fail
      go_roundw
      case rel => exact ⟨k + 1, some ad, j, xc, ent e d, by omega, by go_num, rfl, HOK.out, HRJ.out, fun _ => HEQ.out.symm, HB2.out⟩
      case measure => simp [intOf]; omega
     ·have d1 : decide ((k : Int) > 0) = true := decide_eq_true (by omega)
      have d2 : decide (0 < k) = true := decide_eq_true (by omega)
      have hzl := HZL.out (by omega)
      have HC := Lib.hid (fun W (hW : Below w.heap.size w W) => compare_any zA zm zc zl (some ad) j xc (ent e d) W (HZ.out.keep (Fr.of_below hW No) fun _ _ hn => hn) (HRJ.out.keep (Fr.of_below hW No) fun _ _ hn => hn))
      have hcg := cmpN_ge zl (ent e d)
      have hk1 : (k == 0) = false := beq_false_of_ne hk0
      have hok : okAt e (l.map CV.e) k = ltb zl (ent e d) := by unfold okAt; rw [HG.out, hk1, ← hzl]; rfl
      have HOK := Lib.hid hok
      obtain ⟨cn, hcn⟩ : ∃ cn, cn = cmpN zl (ent e d) := ⟨_, rfl⟩
      rw [← hcn] at HC hcg
      have HB3 := Lib.hid (HB2.out)
      clear hzl hok hk1 hk0 hcn
      cases hlt2 : ltb zl (ent e d) with
      | true =>
        rw [hlt2] at hcg
        have d3 : decide (cn ≥ 0) = false := hcg
        have HST := Lib.hid (all_step HA.out (HOK.out.trans hlt2))
        clear hlt2 hcg
        go_wp2_with (go_at_call 138; refine (HC.out _ HB3.out).mono ?_; rintro e w' ⟨rfl, rfl⟩)
        go_roundw
        case rel => exact ⟨k + 1, some ad, j, xc, ent e d, by omega, by go_num, rfl, HST.out, HRJ.out, fun _ => HEQ.out.symm, HB2.out⟩
        case measure => simp [intOf]; omega
      | false =>
        rw [hlt2] at hcg
        have d3 : decide (cn ≥ 0) = true := hcg
        have HN := Lib.hid (show rise e (l.map CV.e) = false from all_stop (k := k) (by rw [List.length_map, HL.out]; exact hlt) (HOK.out.trans hlt2))
        clear hlt2 hcg
        go_wp2_with (go_at_call 138; refine (HC.out _ HB3.out).mono ?_; rintro e w' ⟨rfl, rfl⟩)
        go_ret
        exact ⟨by rw [HN.out]; rfl, HB2.out⟩
  ·have h1d : decide ((k : Int) < (n : Int)) = false := decide_eq_false (by omega)
   have h1d2 : decide (k < n) = false := decide_eq_false hlt
   have HS := Lib.hid (show rise e (l.map CV.e) = true by unfold rise; rw [List.length_map, HL.out, show n = k by omega]; exact HA.out)
   go_wp2
   go_ret
   exact ⟨by rw [HS.out]; rfl, HB.out⟩
theorem mayStand_any (k : Int) (A : Option Addr) (n c : Nat) (l : List CV) (w : World) (h : CR w All All A n l) (hn : n ≤ 20001) (hm : ∀ x ∈ l, x.u = true → 1 ≤ x.m) :
  Calls Tryz.prog 133 #[.int .i64 k, .slice A n c] w fun q w' => q = .returned (.bool (stand k (l.map CV.e))) ∧ Below w.heap.size w w' := by
 have HR := Lib.hid h
 have HM := Lib.hid hm
 have HL := Lib.hid h.1
 have HB0 := Lib.hid (Below.refl w.heap.size w)
 clear h hm
 by_cases h1 : k = 1
 ·have d1 : (k == 1) = true := by rw [beq_iff_eq]; exact h1
  have HS := Lib.hid (show stand k (l.map CV.e) = lastU (l.map CV.e) by rw [stand, if_pos h1])
  clear h1
  by_cases h0 : n = 0
  ·have d2 : ((n : Int) == 0) = true := by rw [beq_iff_eq]; omega
   have HT := Lib.hid (show lastU (l.map CV.e) = true by rw [lastU, List.length_map, HL.out, h0]; rfl)
   clear h0
   go_enter Tryz.func133, Tryz.ntmps133
   go_wp2
   go_ret
   exact ⟨by rw [HS.out, HT.out]; rfl, HB0.out⟩
  ·have d2 : ((n : Int) == 0) = false := beq_false_of_ne (by omega)
   obtain ⟨j, hj⟩ : ∃ j, j = n - 1 := ⟨_, rfl⟩
   obtain ⟨g, o, x, rfl, hg, _, hx, hxi, b0, b1, b2⟩ := HR.out.at_ (show j < n by omega)
   have hget := getD_at (es_at hx)
   have HT := Lib.hid (show lastU (l.map CV.e) = x.u by
    rw [lastU, List.length_map, HL.out, ← hj, hget, show (n == 0) = false from beq_false_of_ne h0]
    rfl)
   have hsub : IntKind.i64.wrap ((n : Int) - 1) = (j : Int) := by rw [IntWalk.i64_in _ (by omega)]; omega
   have hjn : j < n := by omega
   clear hget hx hxi hj h0 b1 b2
   go_enter Tryz.func133, Tryz.ntmps133
   go_wp2
   go_ret
   exact ⟨by rw [HS.out, HT.out]; rfl, HB0.out⟩
 ·have d1 : (k == 1) = false := beq_false_of_ne h1
  by_cases h3 : k = 3
  ·have d3 : (k == 3) = true := by rw [beq_iff_eq]; exact h3
   have HS := Lib.hid (show stand k (l.map CV.e) = ((l.map CV.e).all innc && rise 4 (l.map CV.e)) by rw [stand, if_neg h1, if_pos h3])
   clear h1 h3
   go_enter Tryz.func133, Tryz.ntmps133
   go_wp2
   go_loopw [29] (fun i wr => ∃ q : Nat, q ≤ n ∧ i = .int .i64 (q : Int) ∧ ((l.map CV.e).take q).all innc = true ∧ Below w.heap.size w wr) (fun i _ => n - (intOf i).toNat)
   case atStart => exact ⟨0, by omega, rfl, rfl, HB0.out⟩
   case round =>
    obtain ⟨q, hq, rfl, hall, hbel⟩ := hrel
    have HB := Lib.hid hbel
    have HA := Lib.hid hall
    have hsz := hbel.size
    clear hbel hall
    by_cases hlt : q < n
    ·obtain ⟨g, o, x, rfl, hg, _, hx, hxi, b0, b1, b2⟩ := (HR.out.below HB.out).at_ hlt
     have hx2 := es_at hx
     obtain ⟨u, kk, xA, m, xc, d⟩ := x
     have hlen := hxi.len
     simp only at b0 b1 b2 hlen
     have HB2 := Lib.hid (HB.out.alloc hsz (.cells #[.bool u, .int .u32 (kk : Int), .slice xA m xc] 55))
     have hWi : IntKind.i64.wrap ((q : Int) + 1) = ((q + 1 : Nat) : Int) := by rw [IntWalk.i64_in _ (by omega)]; omega
     have hin : ((q : Int) < (n : Int)) := by omega
     have HX := Lib.hid hx2
     have HIN := Lib.hid (show innc (CV.e ⟨u, kk, xA, m, xc, d⟩) = (kk == 0 && decide (4 < m)) by subst hlen; rfl)
     clear hx hxi hx2 hlen
     by_cases hk0 : kk = 0
     ·have e1 : ((kk : Int) == 0) = true := by rw [beq_iff_eq]; omega
      have e1n : ((kk : Int) != 0) = false := by rw [bne_eq_false_iff_eq]; omega
      have e1b : (kk == 0) = true := by rw [beq_iff_eq]; exact hk0
      clear hk0
      by_cases h4 : 4 < m
      ·have e2 : decide ((m : Int) ≤ 4) = false := decide_eq_false (by omega)
       have e2b : decide (4 < m) = true := decide_eq_true h4
       have HN := Lib.hid (take_all HX.out HA.out (HIN.out.trans (by rw [e1b, e2b]; rfl)))
       clear h4 e1b e2b
       go_wp2_with fail
       go_roundw
       case rel => exact ⟨q + 1, by omega, by go_num, HN.out, HB2.out⟩
       case measure => simp [intOf]; omega
      ·have e2 : decide ((m : Int) ≤ 4) = true := decide_eq_true (by omega)
       have e2b : decide (4 < m) = false := decide_eq_false h4
       have HN := Lib.hid (stop_all HX.out (HIN.out.trans (by rw [e1b, e2b]; rfl)))
       clear h4 e1b e2b
       go_wp2_with fail
       go_ret
       exact ⟨by rw [HS.out, HN.out]; rfl, HB2.out⟩
     ·have e1 : ((kk : Int) == 0) = false := beq_false_of_ne (by omega)
      have e1n : ((kk : Int) != 0) = true := bne_iff_ne.2 (by omega)
      have HN := Lib.hid (stop_all HX.out (HIN.out.trans (by rw [show (kk == 0) = false from beq_false_of_ne hk0]; rfl)))
      clear hk0
      go_wp2_with fail
      go_ret
      exact ⟨by rw [HS.out, HN.out]; rfl, HB2.out⟩
    ·have h1d : decide ((q : Int) < (n : Int)) = false := decide_eq_false (by omega)
     have h1d2 : decide (q < n) = false := decide_eq_false hlt
     have hA2 : (l.map CV.e).all innc = true := by
      have := HA.out
      rwa [List.take_of_length_le (by rw [List.length_map, HL.out]; omega)] at this
     have HRS := Lib.hid (fun W (hW : Below w.heap.size w W) => rise_any A n c 4 l W (HR.out.below hW) hn (fun x hx _ => by
      have h5 := List.all_eq_true.1 hA2 x.e (List.mem_map_of_mem hx)
      unfold innc at h5
      simp only [Bool.and_eq_true, beq_iff_eq, decide_eq_true_eq] at h5
      have h6 := (HR.out.2.1 x hx).len
      have h7 : 4 < x.d.length := h5.2
      omega))
     have HS2 := Lib.hid (show stand k (l.map CV.e) = rise 4 (l.map CV.e) by rw [HS.out, hA2]; rfl)
     clear hA2
     go_wp2_with (go_at_call 137; refine (HRS.out _ HB.out).mono ?_; rintro e w' ⟨rfl, hb2⟩; have HB3 := Lib.hid (HB.out.trans (hb2.mono hsz)); clear hb2)
     go_ret
     exact ⟨by rw [HS2.out]; rfl, HB3.out⟩
  ·have d3 : (k == 3) = false := beq_false_of_ne h3
   by_cases h2 : k = 2
   ·have d2 : (k == 2) = true := by rw [beq_iff_eq]; exact h2
    have HS := Lib.hid (show stand k (l.map CV.e) = rise 0 (l.map CV.e) by rw [stand, if_neg h1, if_neg h3, if_pos h2])
    have HRS := Lib.hid (rise_any A n c 0 l w HR.out hn (fun x hx hu => ⟨Nat.zero_le _, HM.out x hx hu⟩))
    clear h1 h2 h3
    go_enter Tryz.func133, Tryz.ntmps133
    go_wp2_with (go_at_call 137; refine HRS.out.mono ?_; rintro e w' ⟨rfl, hb2⟩; have HB3 := Lib.hid hb2; clear hb2)
    go_ret
    exact ⟨by rw [HS.out]; rfl, HB3.out⟩
   ·have d2 : (k == 2) = false := beq_false_of_ne h2
    have HS := Lib.hid (show stand k (l.map CV.e) = false by rw [stand, if_neg h1, if_neg h3, if_neg h2])
    clear h1 h2 h3
    go_enter Tryz.func133, Tryz.ntmps133
    go_wp2
    go_ret
    exact ⟨by rw [HS.out]; rfl, HB0.out⟩
end Go.Proofs.YtdhgbkibbileiaaGreat
set_option maxRecDepth 100000
namespace Go.Proofs.YtdhgbkibbileiaaGreat
open Go.RowKit
structure Few (p : PV) : Prop where
 n : p.n ≤ 20001
 m : ∀ x ∈ p.l, x.m ≤ 20001
def pcs (p : PV) : Array Value := #[.int .i64 p.k, .int .u64 (p.s : Int), .int .u32 (p.x : Int), .slice p.A p.n p.c]
theorem box_page (w : World) (p : PV) : ∃ W, w.alloc (.cells #[.int .i64 p.k, .int .u64 (p.s : Int), .int .u32 (p.x : Int), .slice p.A p.n p.c] 51) = W ∧ Below w.heap.size w W ∧ Blk W w.heap.size 51 (pcs p) ∧ W.heap.size = w.heap.size + 1 :=
 ⟨_, rfl, (Below.refl _ _).alloc (Nat.le_refl _) _, Blk.new w 51 _, by simp⟩
theorem pcs_cells {w : World} {g : Nat} {p : PV} (h : Blk w g 51 (pcs p)) : w.cell? ⟨g, 0, none⟩ = some (.int .i64 p.k) ∧ w.cell? ⟨g, 1, none⟩ = some (.int .u64 (p.s : Int)) ∧ w.cell? ⟨g, 2, none⟩ = some (.int .u32 (p.x : Int)) ∧ w.cell? ⟨g, 3, none⟩ = some (.slice p.A p.n p.c) := by
 have h0 := h.cell 0
 have h1 := h.cell 1
 have h2 := h.cell 2
 have h3 := h.cell 3
 simp only [pcs, List.getElem?_toArray, List.getElem?_cons_zero, List.getElem?_cons_succ] at h0 h1 h2 h3
 exact ⟨h0, h1, h2, h3⟩
theorem may_any (p : PV) (w : World) (h : p.In w All All) (hf : Few p) : Calls Tryz.prog 103 #[p.agg] w fun e w' => e = .returned (.bool (may p.k p.es)) ∧ Below w.heap.size w w' := by
 obtain ⟨W, hW, hBW, hbx, hsz⟩ := box_page w p
 obtain ⟨y0, y1, y2, y3⟩ := pcs_cells hbx
 have HP := Lib.hid (h.below hBW)
 have HF := Lib.hid hf
 have HBW := Lib.hid hBW
 have HBX := Lib.hid hbx
 have hln := h.len
 have HLN := Lib.hid hln
 have HSZ := Lib.hid hsz
 obtain ⟨pk, ps, px, A, n, c, l⟩ := p
 simp only at hW y0 y1 y2 y3 hln
 have hn3 : n ≤ 20001 := hf.n
 clear h hf hBW hbx hln hsz
 by_cases h60 : n ≤ 60
 ·have d1 : decide ((n : Int) > 60) = false := decide_eq_false (by omega)
  have d2 : decide (60 < n) = false := decide_eq_false (by omega)
  have HM := Lib.hid (show may pk (l.map CV.e) = ((l.map CV.e).all cmay && (decide (psz (l.map CV.e) ≤ 512) && stand pk (l.map CV.e))) by
   have := HLN.out
   simp only [PV.es] at this
   rw [may, this, decide_eq_true h60, Bool.true_and])
  clear h60
  simp only [PV.agg, PV.es]
  go_enter Tryz.func103, Tryz.ntmps103
  go_wp2
  go_loopw [12] (fun i wr => ∃ q : Nat, q ≤ n ∧ i = .int .i64 (q : Int) ∧ ((l.map CV.e).take q).all cmay = true ∧ Below W.heap.size W wr) (fun i _ => n - (intOf i).toNat)
  case atStart => exact ⟨0, by omega, rfl, rfl, Below.refl _ _⟩
  case round =>
   obtain ⟨q, hq, rfl, hall, hbel⟩ := hrel
   have HB := Lib.hid hbel
   have HA := Lib.hid hall
   have hsz := hbel.size
   clear hbel hall
   by_cases hlt : q < n
   ·obtain ⟨g, o, x, rfl, hg, _, hx, hxi, b0, b1, b2⟩ := (HP.out.r.below HB.out).at_ hlt
    have hx2 := es_at hx
    have hlen := hxi.len
    obtain ⟨u, kk, xA, m, xc, d⟩ := x
    simp only at b0 b1 b2
    have HB2 := Lib.hid (HB.out.alloc hsz (.cells #[.bool u, .int .u32 (kk : Int), .slice xA m xc] 55))
    have hWi : IntKind.i64.wrap ((q : Int) + 1) = ((q + 1 : Nat) : Int) := by rw [IntWalk.i64_in _ (by omega)]; omega
    have hin : ((q : Int) < (n : Int)) := by omega
    have HX := Lib.hid hx2
    have HC := Lib.hid (fun W' => mayCell_any ⟨u, kk, xA, m, xc, d⟩ W' hlen)
    simp only [CV.agg] at HC
    clear hx hxi hx2 hlen
    obtain ⟨b, hb⟩ : ∃ b, cmay (CV.e ⟨u, kk, xA, m, xc, d⟩) = b := ⟨_, rfl⟩
    rw [hb] at HC
    have HBB := Lib.hid hb
    clear hb
    cases b with
    | true =>
      have HN := Lib.hid (take_all HX.out HA.out HBB.out)
      go_wp2_with (go_at_call 131; refine (HC.out _).mono ?_; rintro e w' ⟨rfl, hb2⟩; have HB3 := Lib.hid (HB2.out.trans (hb2.mono HB2.out.size)); clear hb2)
      go_roundw
      case rel => exact ⟨q + 1, by omega, by go_num, HN.out, HB3.out⟩
      case measure => simp [intOf]; omega
    | false =>
      have HN := Lib.hid (stop_all HX.out HBB.out)
      go_wp2_with (go_at_call 131; refine (HC.out _).mono ?_; rintro e w' ⟨rfl, hb2⟩; have HB3 := Lib.hid (HB2.out.trans (hb2.mono HB2.out.size)); clear hb2)
      go_ret
      exact ⟨by rw [HM.out, HN.out]; rfl, HBW.out.trans (HB3.out.mono HBW.out.size)⟩
   ·have h1d : decide ((q : Int) < (n : Int)) = false := decide_eq_false (by omega)
    have h1d2 : decide (q < n) = false := decide_eq_false hlt
    have hA2 : (l.map CV.e).all cmay = true := by
     have := HA.out
     have hl2 := HLN.out
     simp only [PV.es] at hl2
     rwa [List.take_of_length_le (by rw [hl2]; omega)] at this
    have HM2 := Lib.hid (show may pk (l.map CV.e) = (decide (psz (l.map CV.e) ≤ 512) && stand pk (l.map CV.e)) by rw [HM.out, hA2]; rfl)
    have HS := Lib.hid (fun W' (hW' : Below W.heap.size W W') => size_any ⟨pk, ps, px, A, n, c, l⟩ W' (HP.out.below hW') (fun x hx => Nat.le_trans (HF.out.m x hx) (by omega)) (Nat.le_trans HF.out.n (by omega)))
    have HT := Lib.hid (fun W' (hW' : Below W.heap.size W W') => mayStand_any pk A n c l W' (HP.out.r.below hW') (Nat.le_trans HF.out.n (by omega)) (fun x hx hu => by
     have h5 := List.all_eq_true.1 hA2 x.e (List.mem_map_of_mem hx)
     unfold cmay at h5
     rw [show x.e.u = true from hu] at h5
     simp only [if_true, Bool.and_eq_true, decide_eq_true_eq] at h5
     have h6 := (HP.out.r.2.1 x hx).len
     have h7 : 1 ≤ x.d.length := h5.1
     omega))
    simp only [PV.agg, PV.es] at HS
    obtain ⟨z, hz⟩ : ∃ z, z = psz (l.map CV.e) := ⟨_, rfl⟩
    rw [← hz] at HS HM2
    obtain ⟨y0, y1, y2, y3⟩ := pcs_cells (HBX.out.below HB.out (by have := HSZ.out; omega))
    simp only at y0 y1 y2 y3
    clear hA2 hz
    by_cases h512 : z ≤ 512
    ·have d3 : decide ((z : Int) ≤ 512) = true := decide_eq_true (by omega)
     have HM3 := Lib.hid (show may pk (l.map CV.e) = stand pk (l.map CV.e) by rw [HM2.out, decide_eq_true h512]; rfl)
     clear h512
     go_wp2_with fail
     refine (HS.out _ HB.out).mono ?_
     rintro e w1 ⟨rfl, hb2⟩
     have HB3 := Lib.hid (HB.out.trans (hb2.mono hsz))
     obtain ⟨y0, y1, y2, y3⟩ := pcs_cells (HBX.out.below HB3.out (by have := HSZ.out; omega))
     simp only at y0 y1 y2 y3
     clear hb2
     go_wp2_with fail
     refine (HT.out _ HB3.out).mono ?_
     rintro e w2 ⟨rfl, hb2⟩
     have HB4 := Lib.hid (HB3.out.trans (hb2.mono HB3.out.size))
     clear hb2
     go_wp2_with fail
     go_ret
     exact ⟨by rw [HM3.out]; rfl, HBW.out.trans (HB4.out.mono HBW.out.size)⟩
    ·have d3 : decide ((z : Int) ≤ 512) = false := decide_eq_false (by omega)
     have HM3 := Lib.hid (show may pk (l.map CV.e) = false by rw [HM2.out, decide_eq_false h512]; rfl)
     clear h512
     go_wp2_with fail
     refine (HS.out _ HB.out).mono ?_
     rintro e w1 ⟨rfl, hb2⟩
     have HB3 := Lib.hid (HB.out.trans (hb2.mono hsz))
     clear hb2
     go_wp2_with fail
     go_ret
     exact ⟨by rw [HM3.out]; rfl, HBW.out.trans (HB3.out.mono HBW.out.size)⟩
 ·have d1 : decide ((n : Int) > 60) = true := decide_eq_true (by omega)
  have d2 : decide (60 < n) = true := decide_eq_true (by omega)
  have HM := Lib.hid (show may pk (l.map CV.e) = false by
   have := HLN.out
   simp only [PV.es] at this
   rw [may, this, decide_eq_false h60, Bool.false_and])
  clear h60
  simp only [PV.agg, PV.es]
  go_enter Tryz.func103, Tryz.ntmps103
  go_wp2
  go_ret
  exact ⟨by rw [HM.out]; rfl, HBW.out⟩
theorem order_any (k : Int) (x : CV) (w : World) (h : x.In w All) : Calls Tryz.prog 48 #[.int .i64 k, x.agg] w fun e w' => e = .returned (.string (strOf (ordr k x.e))) ∧ Below w.heap.size w w' := by
 obtain ⟨u, kk, A, m, c, d⟩ := x
 have hlen := h.len
 have hmc := h.mc
 have hml := h.ml
 have HB := Lib.hid h.b
 simp only at hlen hmc hml HB
 have HB0 : Hid (Below w.heap.size w (w.alloc (.cells #[.bool u, .int .u32 (kk : Int), .slice A m c] 55))) := (Below.refl _ _).alloc (Nat.le_refl _) _
 have hcv := run_conv _ A m c d (w.alloc (.cells #[.bool u, .int .u32 (kk : Int), .slice A m c] 55)) (HB.out.alloc _)
 clear h
 simp only [CV.agg]
 by_cases h3 : k = 3
 ·have d1 : (k == 3) = true := by rw [beq_iff_eq]; exact h3
  by_cases h4 : 4 ≤ m
  ·have d2 : decide ((m : Int) ≥ 4) = true := decide_eq_true (by omega)
   have d3 : decide (4 ≤ m) = true := decide_eq_true h4
   obtain ⟨ad, rfl, _⟩ := HB.out.at_ (k := 0) (by omega)
   obtain ⟨j, hj⟩ : ∃ j, j = m - 4 := ⟨_, rfl⟩
   have hsub : IntKind.i64.wrap ((m : Int) - 4) = (j : Int) := by rw [IntWalk.i64_in _ (by omega)]; omega
   have hjc : j ≤ c := by omega
   have HS := Lib.hid (show ordr k (CV.e ⟨u, kk, some ad, m, c, d⟩) = d.take j by rw [ordr, if_pos h3, if_pos (by show 4 ≤ d.length; omega), ent]; show d.take (d.length - 4) = _; rw [hlen, hj])
   have hcj := run_conv _ (some ad) j c (d.take j) (w.alloc (.cells #[.bool u, .int .u32 (kk : Int), .slice (some ad) m c] 55)) ((HB.out.take (by omega)).alloc _)
   clear h3 h4 hj
   go_enter Tryz.func48, Tryz.ntmps48
   go_wp2
   go_ret
   exact ⟨by rw [HS.out]; rfl, HB0.out⟩
  ·have d2 : decide ((m : Int) ≥ 4) = false := decide_eq_false (by omega)
   have d3 : decide (4 ≤ m) = false := decide_eq_false h4
   have HS := Lib.hid (show ordr k (CV.e ⟨u, kk, A, m, c, d⟩) = d by rw [ordr, if_pos h3, if_neg (by show ¬ 4 ≤ d.length; omega)]; rfl)
   clear h3 h4
   go_enter Tryz.func48, Tryz.ntmps48
   go_wp2
   go_ret
   exact ⟨by rw [HS.out]; rfl, HB0.out⟩
 ·have d1 : (k == 3) = false := beq_false_of_ne h3
  have HS := Lib.hid (show ordr k (CV.e ⟨u, kk, A, m, c, d⟩) = d by rw [ordr, if_neg h3]; rfl)
  clear h3
  go_enter Tryz.func48, Tryz.ntmps48
  go_wp2
  go_ret
  exact ⟨by rw [HS.out]; rfl, HB0.out⟩
end Go.Proofs.YtdhgbkibbileiaaGreat
