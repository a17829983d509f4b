/-
  THE WALKS OF takesOps, hasUnused, Room both.
-/
import Derived.Test.YtajmpoanmdgmpaaPD
import Derived.Test.YtajmpoanmdgmpaaPG
namespace Go.Proofs.Ytajmpoanmdgmpaa
open Go.RowKit

def takes (k : Int) : Bool := k == 1 || k == 2
def unused (l : List CE) : Bool := l.any fun c => !c.u
/-- how many bytes may be put at most, where the page may be -/
def roomN (l : List CE) : Nat := if unused l then min (508 - psz l) 180 else if l.length = 60 then 0 else min (506 - psz l) 180
def room (k : Int) (l : List CE) : Nat := if takes k && may k l then roomN l else 0
set_option maxRecDepth 100000 in
theorem takesOps_any (k : Int) (w : World) : Calls Try.prog 41 #[.int .i64 k] w fun e w' => e = .returned (.bool (takes k)) ∧ w = w' := by
  have ht : takes k = ((k == 1) || (k == 2)) := rfl
  rw [ht]
  clear ht
  cases h1 : (k == 1) with
  | true =>
    go_enter Try.func41, Try.ntmps41
    go_wp2
    go_ret
    exact ⟨rfl, rfl⟩
  | false =>
    go_enter Try.func41, Try.ntmps41
    go_wp2
    go_ret
    exact ⟨by simp, rfl⟩
theorem any_next {l : List CE} {k : Nat} {x : CE} (h : l[k]? = some x) (ha : unused (l.take k) = false) (hf : x.u = true) : unused (l.take (k + 1)) = false := by
  have hk : k < l.length := by
    rcases Nat.lt_or_ge k l.length with h' | h'
    · exact h'
    · rw [List.getElem?_eq_none h'] at h; cases h
  have e : l[k] = x := by rw [List.getElem?_eq_getElem hk] at h; injection h
  unfold unused at ha ⊢
  rw [List.take_succ_eq_append_getElem hk, List.any_append, ha, e]
  simp [hf]
theorem any_here {l : List CE} {k : Nat} {x : CE} (h : l[k]? = some x) (hf : x.u = false) : unused l = true := by
  unfold unused
  rw [List.any_eq_true]
  exact ⟨x, List.mem_of_getElem? h, by rw [hf]; rfl⟩
set_option maxRecDepth 100000 in
theorem hasUnused_any (A : Option Addr) (n c : Nat) (l : List CV) (w : World) (h : CR w All All A n l) (hn : n ≤ 1000) :
    Calls Try.prog 42 #[.slice A n c] w fun q w' => q = .returned (.bool (unused (l.map CV.e))) ∧ Below w.heap.size w w' := by
  have HR := Lib.hid h
  have HL := Lib.hid h.1
  have HB0 := Lib.hid (Below.refl w.heap.size w)
  clear h
  go_enter Try.func42, Try.ntmps42
  go_wp2
  go_loopw [7] (fun i wr => ∃ k : Nat, k ≤ n ∧ i = .int .i64 (k : Int) ∧ unused ((l.map CV.e).take k) = false ∧ Below w.heap.size w wr) (fun i _ => n - (intOf i).toNat)
  case atStart => exact ⟨0, by omega, rfl, rfl, HB0.out⟩
  case round =>
    obtain ⟨k, hk, rfl, hall, hbel⟩ := hrel
    have HB := Lib.hid hbel
    have HA := Lib.hid hall
    have hsz := hbel.size
    clear hbel hall
    by_cases hlt : k < n
    · obtain ⟨g, o, x, rfl, hg, _, hx, hxi, b0, b1, b2⟩ := (HR.out.below HB.out).at_ hlt
      have HX := Lib.hid (es_at hx)
      obtain ⟨u, kk, xA, m, xc, d⟩ := x
      simp only at b0 b1 b2
      have HB2 := Lib.hid (HB.out.alloc hsz (.cells #[.bool u, .int .u32 (kk : Int), .slice xA m xc] 58))
      have hWi : IntKind.i64.wrap ((k : Int) + 1) = ((k + 1 : Nat) : Int) := by rw [IntWalk.i64_in _ (by omega)]; omega
      have hin : ((k : Int) < (n : Int)) := by omega
      clear hx hxi
      cases u with
      | true =>
        have HN := Lib.hid (any_next HX.out HA.out rfl)
        go_wp2_with fail
        go_roundw
        case rel => exact ⟨k + 1, by omega, by go_num, HN.out, HB2.out⟩
        case measure => simp [intOf]; omega
      | false =>
        have HN := Lib.hid (any_here HX.out rfl)
        go_wp2_with fail
        go_ret
        exact ⟨by rw [HN.out]; rfl, HB2.out⟩
    · have h1d : decide ((k : Int) < (n : Int)) = false := decide_eq_false (by omega)
      have h1d2 : decide (k < n) = false := decide_eq_false hlt
      have HN := Lib.hid (show unused (l.map CV.e) = false by have := HA.out; rwa [List.take_of_length_le (by rw [List.length_map, HL.out]; omega)] at this)
      go_wp2
      go_ret
      exact ⟨by rw [HN.out]; rfl, HB.out⟩
theorem may_psz {k : Int} {l : List CE} (h : may k l = true) : psz l ≤ 512 ∧ 18 ≤ psz l ∧ l.length ≤ 60 := by
  unfold may at h
  simp only [Bool.and_eq_true, decide_eq_true_eq] at h
  exact ⟨h.2.2.1, by unfold psz; omega, h.1⟩
set_option maxHeartbeats 1000000 in
set_option maxRecDepth 100000 in
theorem room_any (p : PV) (w : World) (h : p.In w All All) (hf : Few p) : Calls Try.prog 20 #[p.agg] w fun e w' => e = .returned (.int .i64 ((room p.k p.es : Nat) : Int)) ∧ Below w.heap.size w w' := by
  obtain ⟨W, hW, hBW, hbx, hsz⟩ := box_page w p
  obtain ⟨y0, y1, y2, y3⟩ := pcs_cells hbx
  have HP := Lib.hid (h.below hBW)
  have HF := Lib.hid hf
  have HBW := Lib.hid hBW
  have HBX := Lib.hid hbx
  have HSZ := Lib.hid hsz
  have HE1 : Hid (p.es.length = p.n) := h.len
  have HM := Lib.hid (may_any p W (h.below hBW) hf)
  obtain ⟨pk, ps, px, A, n, c, l⟩ := p
  simp only at hW y0 y1 y2 y3
  have hn3 : n ≤ 300 := hf.n
  have HT := Lib.hid (takesOps_any pk W)
  have HR := Lib.hid (show room pk (l.map CV.e) = if takes pk && may pk (l.map CV.e) then roomN (l.map CV.e) else 0 from rfl)
  simp only [PV.agg, PV.es] at HM ⊢
  clear h hf hBW hbx hsz
  obtain ⟨a, ha⟩ : ∃ a, takes pk = a := ⟨_, rfl⟩
  obtain ⟨b, hb⟩ : ∃ b, may pk (l.map CV.e) = b := ⟨_, rfl⟩
  rw [ha] at HT HR
  rw [hb] at HM HR
  have HMB := Lib.hid hb
  clear ha hb
  cases a with
  | false =>
    go_enter Try.func20, Try.ntmps20
    go_wp2_with fail
    refine HT.out.mono ?_
    rintro e w1 ⟨rfl, rfl⟩
    go_wp2_with fail
    go_ret
    exact ⟨by rw [HR.out]; rfl, HBW.out⟩
  | true =>
    go_enter Try.func20, Try.ntmps20
    go_wp2_with fail
    refine HT.out.mono ?_
    rintro e w1 ⟨rfl, rfl⟩
    go_wp2_with fail
    refine HM.out.mono ?_
    rintro e w1 ⟨rfl, hb1⟩
    have HB1 := Lib.hid hb1
    obtain ⟨y0, y1, y2, y3⟩ := pcs_cells (HBX.out.below hb1 (by have := HSZ.out; omega))
    simp only at y0 y1 y2 y3
    clear hb1
    cases b with
    | false =>
      go_wp2_with fail
      go_ret
      exact ⟨by rw [HR.out]; rfl, HBW.out.trans (HB1.out.mono HBW.out.size)⟩
    | true =>
      obtain ⟨hz1, hz2, hz3⟩ := may_psz HMB.out
      have HS := Lib.hid (size_any ⟨pk, ps, px, A, n, c, l⟩ w1 (HP.out.below HB1.out) (fun x hx => Nat.le_trans (HF.out.m x hx) (by omega)) (Nat.le_trans HF.out.n (by omega)))
      simp only [PV.agg, PV.es] at HS
      have hRR : roomN (l.map CV.e) = if unused (l.map CV.e) then min (508 - psz (l.map CV.e)) 180 else if n = 60 then 0 else min (506 - psz (l.map CV.e)) 180 := by
        have := HE1.out
        simp only [PV.es] at this
        rw [roomN, this]
      obtain ⟨z, hz⟩ : ∃ z, z = psz (l.map CV.e) := ⟨_, rfl⟩
      rw [← hz] at HS hz1 hz2 hRR
      have HRR := Lib.hid (HR.out.trans (show _ = roomN (l.map CV.e) from rfl))
      have HRN := Lib.hid hRR
      clear hz hRR
      go_wp2_with fail
      refine HS.out.mono ?_
      rintro e w2 ⟨rfl, hb2⟩
      have HB2 := Lib.hid (HB1.out.trans (hb2.mono HB1.out.size))
      obtain ⟨y0, y1, y2, y3⟩ := pcs_cells (HBX.out.below HB2.out (by have := HSZ.out; omega))
      simp only at y0 y1 y2 y3
      clear hb2
      have HU := Lib.hid (hasUnused_any A n c l w2 (HP.out.r.below HB2.out) (by omega))
      have e1 : IntKind.i64.wrap (512 - (z : Int)) = 512 - (z : Int) := IntWalk.i64_in _ (by omega)
      have e2 : IntKind.i64.wrap (512 - (z : Int) - 6) = 512 - (z : Int) - 6 := IntWalk.i64_in _ (by omega)
      obtain ⟨b, hb⟩ : ∃ b, unused (l.map CV.e) = b := ⟨_, rfl⟩
      rw [hb] at HU HRN
      clear hb
      cases b with
      | true =>
        have e3 : IntKind.i64.wrap (512 - (z : Int) - 6 + 2) = ((508 : Int) - (z : Int)) := by rw [IntWalk.i64_in _ (by omega)]; omega
        go_wp2_with fail
        refine HU.out.mono ?_
        rintro e w3 ⟨rfl, hb3⟩
        have HB3 := Lib.hid (HB2.out.trans (hb3.mono HB2.out.size))
        clear hb3
        have HRN2 := Lib.hid (HRN.out.trans (show _ = min (508 - z) 180 by simp))
        go_wp2_with fail
        all_goals
          go_ret
          refine ⟨?_, HBW.out.trans (HB3.out.mono HBW.out.size)⟩
          rw [HRR.out, HRN2.out]
          simp
          omega
      | false =>
        by_cases h60 : n = 60
        · have e4 : ((n : Int) == 60) = true := by rw [beq_iff_eq]; omega
          have HRN2 := Lib.hid (HRN.out.trans (show _ = 0 by rw [if_neg (by decide), if_pos h60]))
          clear h60
          go_wp2_with fail
          refine HU.out.mono ?_
          rintro e w3 ⟨rfl, hb3⟩
          have HB3 := Lib.hid (HB2.out.trans (hb3.mono HB2.out.size))
          obtain ⟨y0, y1, y2, y3⟩ := pcs_cells (HBX.out.below HB3.out (by have := HSZ.out; omega))
          simp only at y0 y1 y2 y3
          clear hb3
          go_wp2_with fail
          go_ret
          exact ⟨by rw [HRR.out, HRN2.out]; rfl, HBW.out.trans (HB3.out.mono HBW.out.size)⟩
        · have e4 : ((n : Int) == 60) = false := beq_false_of_ne (by omega)
          have HRN2 := Lib.hid (HRN.out.trans (show _ = min (506 - z) 180 by rw [if_neg (by decide), if_neg h60]))
          clear h60
          go_wp2_with fail
          refine HU.out.mono ?_
          rintro e w3 ⟨rfl, hb3⟩
          have HB3 := Lib.hid (HB2.out.trans (hb3.mono HB2.out.size))
          obtain ⟨y0, y1, y2, y3⟩ := pcs_cells (HBX.out.below HB3.out (by have := HSZ.out; omega))
          simp only at y0 y1 y2 y3
          clear hb3
          go_wp2_with fail
          all_goals
            go_ret
            refine ⟨?_, HBW.out.trans (HB3.out.mono HBW.out.size)⟩
            rw [HRR.out, HRN2.out]
            simp
            omega
set_option maxHeartbeats 2000000 in
set_option maxRecDepth 100000 in
theorem rroom_any (p : PV) (w : World) (h : p.In w All All) (hf : Few p) : Calls Try.prog 21 #[p.agg] w fun e w' => e = .returned (.int .i64 ((room p.k p.es : Nat) : Int)) ∧ Below w.heap.size w w' := by
  obtain ⟨W, hW, hBW, hbx, hsz⟩ := box_page w p
  obtain ⟨y0, y1, y2, y3⟩ := pcs_cells hbx
  have HP := Lib.hid (h.below hBW)
  have HF := Lib.hid hf
  have HBW := Lib.hid hBW
  have HBX := Lib.hid hbx
  have HSZ := Lib.hid hsz
  have HE1 : Hid (p.es.length = p.n) := h.len
  have HM := Lib.hid (rmay_any p W (h.below hBW) hf)
  obtain ⟨pk, ps, px, A, n, c, l⟩ := p
  simp only at hW y0 y1 y2 y3
  have hn3 : n ≤ 300 := hf.n
  have HR := Lib.hid (show room pk (l.map CV.e) = if takes pk && may pk (l.map CV.e) then roomN (l.map CV.e) else 0 from rfl)
  simp only [PV.agg, PV.es] at HM ⊢
  clear h hf hBW hbx hsz
  obtain ⟨b, hb⟩ : ∃ b, may pk (l.map CV.e) = b := ⟨_, rfl⟩
  rw [hb] at HM HR
  have HMB := Lib.hid hb
  clear hb
  cases b with
  | false =>
    have HR2 := Lib.hid (HR.out.trans (show _ = 0 by rw [Bool.and_false]; rfl))
    go_enter Try.func21, Try.ntmps21
    go_wp2_with fail
    refine HM.out.mono ?_
    rintro e w1 ⟨rfl, hb1⟩
    have HB1 := Lib.hid hb1
    clear hb1
    go_wp2_with fail
    go_ret
    exact ⟨by rw [HR2.out]; rfl, HBW.out.trans (HB1.out.mono HBW.out.size)⟩
  | true =>
    go_enter Try.func21, Try.ntmps21
    go_wp2_with fail
    refine HM.out.mono ?_
    rintro e w1 ⟨rfl, hb1⟩
    have HB1 := Lib.hid hb1
    obtain ⟨y0, y1, y2, y3⟩ := pcs_cells (HBX.out.below hb1 (by have := HSZ.out; omega))
    simp only at y0 y1 y2 y3
    clear hb1
    by_cases k3 : pk = 3
    · have d3 : (pk == 3) = true := by rw [beq_iff_eq]; exact k3
      have HR2 := Lib.hid (HR.out.trans (show _ = 0 by rw [k3]; rfl))
      clear k3
      go_wp2_with fail
      go_ret
      exact ⟨by rw [HR2.out]; rfl, HBW.out.trans (HB1.out.mono HBW.out.size)⟩
    · have d3 : (pk == 3) = false := beq_false_of_ne k3
      have HR2 := Lib.hid (HR.out.trans (show _ = roomN (l.map CV.e) by
        have hk : takes pk = true := by
          have hm := HMB.out
          rw [← rmay_eq] at hm
          unfold rmay at hm
          simp only [Bool.and_eq_true, decide_eq_true_eq] at hm
          unfold takes
          simp only [Bool.or_eq_true, beq_iff_eq]
          omega
        rw [hk]
        rfl))
      clear k3
      obtain ⟨hz1, hz2, hz3⟩ := may_psz HMB.out
      have hn60 : n ≤ 60 := by have := HE1.out; simp only [PV.es] at this; omega
      go_wp2_with fail
      go_loopw [3, 4] (fun v i wr => ∃ k : Nat, k ≤ n ∧ i = .int .i64 (k : Int) ∧ v = .bool (unused ((l.map CV.e).take k)) ∧ w1 = wr) (fun _ i _ => n - (intOf i).toNat)
      case atStart => exact ⟨0, by omega, rfl, rfl, rfl⟩
      case round =>
        obtain ⟨k, hk, rfl, rfl, rfl⟩ := hrel
        by_cases hlt : k < n
        · obtain ⟨g, o, x, rfl, hg, _, hx, hxi, b0, b1, b2⟩ := (HP.out.r.below HB1.out).at_ hlt
          have HX := Lib.hid (es_at hx)
          obtain ⟨u, kk, xA, m, xc, d⟩ := x
          simp only at b0 b1 b2
          have hWi : IntKind.i64.wrap ((k : Int) + 1) = ((k + 1 : Nat) : Int) := by rw [IntWalk.i64_in _ (by omega)]; omega
          have hin : ((k : Int) < (n : Int)) := by omega
          clear hx hxi b1 b2
          obtain ⟨b, hb⟩ : ∃ b, unused ((l.map CV.e).take k) = b := ⟨_, rfl⟩
          rw [hb]
          have HN := Lib.hid (show unused ((l.map CV.e).take (k + 1)) = (b || !u) by
            have hkl : k < (l.map CV.e).length := by have := HE1.out; simp only [PV.es] at this; omega
            have e9 := HX.out
            rw [List.getElem?_eq_getElem hkl] at e9
            injection e9 with e9
            rw [List.take_succ_eq_append_getElem hkl, e9]
            unfold unused at hb ⊢
            rw [List.any_append, hb]
            simp [CV.e])
          clear hb
          cases b with
          | true =>
            go_wp2_with fail
            go_roundw
            case rel => exact ⟨k + 1, by omega, by go_num, by rw [HN.out]; rfl, by first | rfl | trivial⟩
            case measure => simp [intOf]; omega
          | false =>
            go_wp2_with fail
            go_roundw
            case rel => exact ⟨k + 1, by omega, by go_num, by rw [HN.out]; simp, by first | rfl | trivial⟩
            case measure => simp [intOf]; omega
        · have h1d : decide ((k : Int) < (n : Int)) = false := decide_eq_false (by omega)
          have h1d2 : decide (k < n) = false := decide_eq_false hlt
          have hun : unused ((l.map CV.e).take k) = unused (l.map CV.e) := by
            rw [List.take_of_length_le (by have := HE1.out; simp only [PV.es] at this; omega)]
          rw [hun]
          have hRR : roomN (l.map CV.e) = if unused (l.map CV.e) then min (508 - psz (l.map CV.e)) 180 else if n = 60 then 0 else min (506 - psz (l.map CV.e)) 180 := by
            have := HE1.out
            simp only [PV.es] at this
            rw [roomN, this]
          have HS := Lib.hid (fun W' (hW' : Below w1.heap.size w1 W') => rsize_any ⟨pk, ps, px, A, n, c, l⟩ W' ((HP.out.below HB1.out).below hW') (fun x hx => Nat.le_trans (HF.out.m x hx) (by omega)) (Nat.le_trans HF.out.n (by omega)))
          simp only [PV.agg, PV.es] at HS
          obtain ⟨f, hf⟩ : ∃ f, unused (l.map CV.e) = f := ⟨_, rfl⟩
          rw [hf] at hRR ⊢
          obtain ⟨z, hz⟩ : ∃ z, z = psz (l.map CV.e) := ⟨_, rfl⟩
          rw [← hz] at HS hz1 hz2 hRR
          obtain ⟨R, hR⟩ : ∃ R, R = roomN (l.map CV.e) := ⟨_, rfl⟩
          rw [← hR] at hRR HR2
          have hR180 : R ≤ 180 := by rw [hRR]; split <;> (try split) <;> omega
          have HRR := Lib.hid hRR
          have HB0 := Lib.hid (Below.refl w1.heap.size w1)
          clear hz hf hR hun hRR
          go_wp2_with fail
          go_loopw [5] (fun i wr => ∃ q : Nat, q ≤ 180 ∧ R ≤ q ∧ i = .int .i64 (q : Int) ∧ Below w1.heap.size w1 wr) (fun i _ => (intOf i).toNat)
          case atStart => exact ⟨180, by omega, hR180, rfl, HB0.out⟩
          case round =>
            obtain ⟨q, hq, hRq, rfl, hbel⟩ := hrel
            have HB2 := Lib.hid hbel
            obtain ⟨y0, y1, y2, y3⟩ := pcs_cells (HBX.out.below (HB1.out.trans (hbel.mono HB1.out.size)) (by have := HSZ.out; omega))
            simp only at y0 y1 y2 y3
            clear hbel
            by_cases hq0 : 0 < q
            · have g1 : decide ((q : Int) > 0) = true := decide_eq_true (by omega)
              have g1b : decide (0 < q) = true := decide_eq_true hq0
              have w1' : IntKind.i64.wrap ((q : Int) - 1) = ((q - 1 : Nat) : Int) := by rw [IntWalk.i64_in _ (by omega)]; omega
              obtain ⟨b4, hb4⟩ : ∃ b4, b4 = z + 4 := ⟨_, rfl⟩
              obtain ⟨a4, ha4⟩ : ∃ a4, a4 = z + 4 + q := ⟨_, rfl⟩
              obtain ⟨b6, hb6⟩ : ∃ b6, b6 = z + 6 := ⟨_, rfl⟩
              obtain ⟨a6, ha6⟩ : ∃ a6, a6 = z + 6 + q := ⟨_, rfl⟩
              have x1 : IntKind.i64.wrap ((z : Int) + 4) = (b4 : Int) := by rw [IntWalk.i64_in _ (by omega)]; omega
              have x2 : IntKind.i64.wrap ((b4 : Int) + (q : Int)) = (a4 : Int) := by rw [IntWalk.i64_in _ (by omega)]; omega
              have x3 : IntKind.i64.wrap ((z : Int) + 6) = (b6 : Int) := by rw [IntWalk.i64_in _ (by omega)]; omega
              have x4 : IntKind.i64.wrap ((b6 : Int) + (q : Int)) = (a6 : Int) := by rw [IntWalk.i64_in _ (by omega)]; omega
              have c1 : True := trivial
              have c2 : True := trivial
              have c3 : True := trivial
              clear c1 c2 c3
              by_cases h60 : n < 60
              · cases f with
                | true =>
                  have hn6 : decide ((n : Int) < 60) = true := decide_eq_true (by omega)
                  have hn6b : decide (n < 60) = true := decide_eq_true (by omega)
                  have hRR := HRR.out
                  rw [if_pos rfl] at hRR
                  by_cases p1 : z + 4 + q ≤ 512
                  · have c1 : decide ((a4 : Int) ≤ 512) = true := decide_eq_true (by omega)
                    have c1b : decide (a4 ≤ 512) = true := decide_eq_true (by omega)
                    have HR3 := Lib.hid (HR2.out.trans (show R = q by omega))
                    clear p1 h60 hRR ha4 ha6 hb4 hb6
                    go_wp2_with fail
                    refine (HS.out _ HB2.out).mono ?_
                    rintro e v4 ⟨rfl, hb2⟩
                    have HB4 := Lib.hid (HB2.out.trans (hb2.mono HB2.out.size))
                    obtain ⟨y0, y1, y2, y3⟩ := pcs_cells (HBX.out.below (HB1.out.trans (HB4.out.mono HB1.out.size)) (by have := HSZ.out; omega))
                    simp only at y0 y1 y2 y3
                    clear hb2
                    go_wp2_with fail
                    go_ret
                    exact ⟨by rw [HR3.out]; rfl, HBW.out.trans ((HB1.out.trans (HB4.out.mono HB1.out.size)).mono HBW.out.size)⟩
                  · have c1 : decide ((a4 : Int) ≤ 512) = false := decide_eq_false (by omega)
                    have c1b : decide (a4 ≤ 512) = false := decide_eq_false (by omega)
                    have c2 : decide ((a6 : Int) ≤ 512) = false := decide_eq_false (by omega)
                    have c2b : decide (a6 ≤ 512) = false := decide_eq_false (by omega)
                    have HRQ := Lib.hid (show R ≤ q - 1 by omega)
                    clear p1 h60 hRR ha4 ha6 hb4 hb6
                    go_wp2_with fail
                    refine (HS.out _ HB2.out).mono ?_
                    rintro e v4 ⟨rfl, hb2⟩
                    have HB4 := Lib.hid (HB2.out.trans (hb2.mono HB2.out.size))
                    obtain ⟨y0, y1, y2, y3⟩ := pcs_cells (HBX.out.below (HB1.out.trans (HB4.out.mono HB1.out.size)) (by have := HSZ.out; omega))
                    simp only at y0 y1 y2 y3
                    clear hb2
                    go_wp2_with fail
                    refine (HS.out _ HB4.out).mono ?_
                    rintro e v5 ⟨rfl, hb2⟩
                    have HB5 := Lib.hid (HB4.out.trans (hb2.mono HB4.out.size))
                    obtain ⟨y0, y1, y2, y3⟩ := pcs_cells (HBX.out.below (HB1.out.trans (HB5.out.mono HB1.out.size)) (by have := HSZ.out; omega))
                    simp only at y0 y1 y2 y3
                    clear hb2
                    go_wp2_with fail
                    go_roundw
                    case rel => exact ⟨q - 1, by omega, HRQ.out, by go_num, HB5.out⟩
                    case measure => simp [intOf]; omega
                | false =>
                  have hn6 : decide ((n : Int) < 60) = true := decide_eq_true (by omega)
                  have hn6b : decide (n < 60) = true := decide_eq_true (by omega)
                  have hRR := HRR.out
                  rw [if_neg (by decide), if_neg (by omega)] at hRR
                  by_cases p1 : z + 6 + q ≤ 512
                  · have c2 : decide ((a6 : Int) ≤ 512) = true := decide_eq_true (by omega)
                    have c2b : decide (a6 ≤ 512) = true := decide_eq_true (by omega)
                    have HR3 := Lib.hid (HR2.out.trans (show R = q by omega))
                    clear p1 h60 hRR ha4 ha6 hb4 hb6
                    go_wp2_with fail
                    refine (HS.out _ HB2.out).mono ?_
                    rintro e v4 ⟨rfl, hb2⟩
                    have HB4 := Lib.hid (HB2.out.trans (hb2.mono HB2.out.size))
                    obtain ⟨y0, y1, y2, y3⟩ := pcs_cells (HBX.out.below (HB1.out.trans (HB4.out.mono HB1.out.size)) (by have := HSZ.out; omega))
                    simp only at y0 y1 y2 y3
                    clear hb2
                    go_wp2_with fail
                    go_ret
                    exact ⟨by rw [HR3.out]; rfl, HBW.out.trans ((HB1.out.trans (HB4.out.mono HB1.out.size)).mono HBW.out.size)⟩
                  · have c2 : decide ((a6 : Int) ≤ 512) = false := decide_eq_false (by omega)
                    have c2b : decide (a6 ≤ 512) = false := decide_eq_false (by omega)
                    have HRQ := Lib.hid (show R ≤ q - 1 by omega)
                    clear p1 h60 hRR ha4 ha6 hb4 hb6
                    go_wp2_with fail
                    refine (HS.out _ HB2.out).mono ?_
                    rintro e v4 ⟨rfl, hb2⟩
                    have HB4 := Lib.hid (HB2.out.trans (hb2.mono HB2.out.size))
                    obtain ⟨y0, y1, y2, y3⟩ := pcs_cells (HBX.out.below (HB1.out.trans (HB4.out.mono HB1.out.size)) (by have := HSZ.out; omega))
                    simp only at y0 y1 y2 y3
                    clear hb2
                    go_wp2_with fail
                    go_roundw
                    case rel => exact ⟨q - 1, by omega, HRQ.out, by go_num, HB4.out⟩
                    case measure => simp [intOf]; omega
              · cases f with
                | true =>
                  have hn6 : decide ((n : Int) < 60) = false := decide_eq_false (by omega)
                  have hn6b : decide (n < 60) = false := decide_eq_false (by omega)
                  have hRR := HRR.out
                  rw [if_pos rfl] at hRR
                  by_cases p1 : z + 4 + q ≤ 512
                  · have c1 : decide ((a4 : Int) ≤ 512) = true := decide_eq_true (by omega)
                    have c1b : decide (a4 ≤ 512) = true := decide_eq_true (by omega)
                    have HR3 := Lib.hid (HR2.out.trans (show R = q by omega))
                    clear p1 h60 hRR ha4 ha6 hb4 hb6
                    go_wp2_with fail
                    refine (HS.out _ HB2.out).mono ?_
                    rintro e v4 ⟨rfl, hb2⟩
                    have HB4 := Lib.hid (HB2.out.trans (hb2.mono HB2.out.size))
                    obtain ⟨y0, y1, y2, y3⟩ := pcs_cells (HBX.out.below (HB1.out.trans (HB4.out.mono HB1.out.size)) (by have := HSZ.out; omega))
                    simp only at y0 y1 y2 y3
                    clear hb2
                    go_wp2_with fail
                    go_ret
                    exact ⟨by rw [HR3.out]; rfl, HBW.out.trans ((HB1.out.trans (HB4.out.mono HB1.out.size)).mono HBW.out.size)⟩
                  · have c1 : decide ((a4 : Int) ≤ 512) = false := decide_eq_false (by omega)
                    have c1b : decide (a4 ≤ 512) = false := decide_eq_false (by omega)
                    have c2 : decide ((a6 : Int) ≤ 512) = false := decide_eq_false (by omega)
                    have c2b : decide (a6 ≤ 512) = false := decide_eq_false (by omega)
                    have HRQ := Lib.hid (show R ≤ q - 1 by omega)
                    clear p1 h60 hRR ha4 ha6 hb4 hb6
                    go_wp2_with fail
                    refine (HS.out _ HB2.out).mono ?_
                    rintro e v4 ⟨rfl, hb2⟩
                    have HB4 := Lib.hid (HB2.out.trans (hb2.mono HB2.out.size))
                    obtain ⟨y0, y1, y2, y3⟩ := pcs_cells (HBX.out.below (HB1.out.trans (HB4.out.mono HB1.out.size)) (by have := HSZ.out; omega))
                    simp only at y0 y1 y2 y3
                    clear hb2
                    go_wp2_with fail
                    go_roundw
                    case rel => exact ⟨q - 1, by omega, HRQ.out, by go_num, HB4.out⟩
                    case measure => simp [intOf]; omega
                | false =>
                  have hn6 : decide ((n : Int) < 60) = false := decide_eq_false (by omega)
                  have hn6b : decide (n < 60) = false := decide_eq_false (by omega)
                  have hRR := HRR.out
                  rw [if_neg (by decide), if_pos (by omega)] at hRR
                  have HRQ := Lib.hid (show R ≤ q - 1 by omega)
                  clear h60 hRR ha4 ha6 hb4 hb6
                  go_wp2_with fail
                  go_roundw
                  case rel => exact ⟨q - 1, by omega, HRQ.out, by go_num, HB2.out⟩
                  case measure => simp [intOf]; omega
            · have g1 : decide ((q : Int) > 0) = false := decide_eq_false (by omega)
              have g1b : decide (0 < q) = false := decide_eq_false hq0
              have HR3 := Lib.hid (HR2.out.trans (show R = 0 by omega))
              go_wp2_with fail
              go_ret
              exact ⟨by rw [HR3.out]; rfl, HBW.out.trans ((HB1.out.trans (HB2.out.mono HB1.out.size)).mono HBW.out.size)⟩
end Go.Proofs.Ytajmpoanmdgmpaa
