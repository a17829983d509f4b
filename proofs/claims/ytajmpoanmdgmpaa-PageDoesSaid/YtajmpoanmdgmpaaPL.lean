/-
  THE WALKS OF writeCell, writePage, Encode.
-/
import Derived.Test.YtajmpoanmdgmpaaPH
import Derived.Test.YtajmpoanmdgmpaaSums
namespace Go.Proofs.Ytajmpoanmdgmpaa
open Go.RowKit

/-- the bytes of a cell, of a page behind its sum, of a page -/
def cellB (c : CE) : List Nat := Cd.fixB 2 c.d.length ++ if c.u then Cd.fixB 4 c.k ++ c.d else []
def headB (k n s x : Nat) : List Nat := ((Cd.fixB 1 k ++ Cd.fixB 1 n) ++ Cd.fixB 8 s) ++ Cd.fixB 4 x
def cellsB (es : List CE) : List Nat := (es.map cellB).flatten
def bodyB (k s x : Nat) (es : List CE) : List Nat := (headB k es.length s x ++ cellsB es) ++ List.replicate (508 - (headB k es.length s x ++ cellsB es).length) 0
def encB (k s x : Nat) (es : List CE) : List Nat := Cd.fixB 4 (Crc.more 0 (bodyB k s x es)) ++ bodyB k s x es
theorem headB_len (k n s x : Nat) : (headB k n s x).length = 14 := by simp [headB, Cd.fixB_len]
theorem cellB_len {c : CE} (h : cmay c = true) : (cellB c).length = csz c := by
  have h' := h
  unfold cmay at h'
  unfold cellB csz
  cases hu : c.u with
  | true => simp [Cd.fixB_len]; omega
  | false =>
    rw [hu] at h'
    simp at h'
    simp [Cd.fixB_len]
theorem cellsB_len : ∀ {es : List CE}, es.all cmay = true → (cellsB es).length + 18 = psz es
  | [], _ => rfl
  | c :: r, h => by
    rw [List.all_cons, Bool.and_eq_true] at h
    have ih := cellsB_len h.2
    have hc := cellB_len h.1
    unfold cellsB psz at ih ⊢
    simp only [List.map_cons, List.flatten_cons, List.length_append, List.sum_cons]
    omega
theorem bodyB_len {k s x : Nat} {es : List CE} (h : es.all cmay = true) (hz : psz es ≤ 512) : (bodyB k s x es).length = 508 := by
  have := cellsB_len h
  unfold bodyB
  simp only [List.length_append, List.length_replicate, headB_len]
  omega
theorem encB_len {k s x : Nat} {es : List CE} (h : es.all cmay = true) (hz : psz es ≤ 512) : (encB k s x es).length = 512 := by
  unfold encB
  rw [List.length_append, Cd.fixB_len, bodyB_len h hz]
theorem cellsB_take {es : List CE} {k : Nat} {x : CE} (h : es[k]? = some x) : cellsB (es.take (k + 1)) = cellsB (es.take k) ++ cellB x := by
  have hk : k < es.length := by
    rcases Nat.lt_or_ge k es.length with h' | h'
    · exact h'
    · rw [List.getElem?_eq_none h'] at h; cases h
  have e : es[k] = x := by rw [List.getElem?_eq_getElem hk] at h; injection h
  unfold cellsB
  rw [List.take_succ_eq_append_getElem hk, e]
  simp
theorem psz_mono (es : List CE) (k : Nat) : psz (es.take k) ≤ psz es := by
  unfold psz
  have : ((es.take k).map csz).sum ≤ (es.map csz).sum := by
    conv => rhs; rw [← List.take_append_drop k es]
    rw [List.map_append, List.sum_append]
    omega
  omega
/-- the writer that was made behind W, and all that was there ahead -/
structure WI (W wr : World) (g : Nat) (l : List Nat) (S : Nat → Prop) : Prop where
  h : Wr wr S (some g) true l
  s : ∀ b, S b → W.heap.size ≤ b ∧ b < wr.heap.size
  f : Fr W wr No
theorem Wrote.ahead {w D w' : World} {S : Nat → Prop} {p : Option Nat} {l k : List Nat} (hf : Fr w D No) (h : Wrote D S p true l k w') : Wrote w S p true l k w' :=
  ⟨Wr.mono h.1 fun _ _ hb => hb.imp id fun hs => Nat.le_trans hf.size hs, (hf.mono (T := S) fun _ _ hn => hn.elim).same h.2⟩
theorem Wrote.more {w w1 w2 : World} {S : Nat → Prop} {p : Option Nat} {l a b : List Nat} (h : Wrote w S p true l a w1) (h2 : Wrote w1 (Up S w) p true (l ++ a) b w2) : Wrote w S p true l (a ++ b) w2 :=
  ⟨by
    show Wr w2 (Up S w) p true (l ++ (a ++ b))
    rw [← List.append_assoc]
    exact Wr.mono h2.1 fun q _ hb => hb.elim id fun hs => Or.inr (Nat.le_trans h.2.size hs), h.2.trans h2.2 fun _ hb => hb⟩
theorem WI.wrote {W wr w' : World} {g : Nat} {l k : List Nat} {S : Nat → Prop} (h : WI W wr g l S) (hw : Wrote wr S (some g) true l k w') : ∃ S', WI W w' g (l ++ k) S' :=
  ⟨fun b => Up S wr b ∧ b < w'.heap.size, Wr.mono hw.1 fun _ hlt hb => ⟨hb, hlt⟩, fun b hb => ⟨hb.1.elim (fun hs => (h.s b hs).1) fun hs => Nat.le_trans h.f.size hs, hb.2⟩,
    h.f.trans hw.2 fun b hb => Or.inr (h.s b hb).1⟩
theorem WI.below {W wr w' : World} {g : Nat} {l : List Nat} {S : Nat → Prop} (h : WI W wr g l S) (hb : Below wr.heap.size wr w') : WI W w' g l S :=
  ⟨Wr.keep h.h (Fr.of_below hb No) fun _ _ hn => hn, fun b hs => ⟨(h.s b hs).1, Nat.lt_of_lt_of_le (h.s b hs).2 hb.size⟩, h.f.trans (Fr.of_below hb No) fun _ hn => hn.elim⟩
set_option maxHeartbeats 1000000 in
set_option maxRecDepth 100000 in
theorem writeCell_any (w : World) (S : Nat → Prop) (g : Nat) (l : List Nat) (h : Wr w S (some g) true l) (hS : ∀ b, S b → b < w.heap.size) (hl : l.length ≤ 1000) (x : CV) (T : Nat → Prop) (hx : x.In w T) (hT : ∀ b, T b → ¬ S b) (hc : cmay x.e = true) :
    Calls Try.prog 69 #[ptr (some g), x.agg] w fun e w' => e = .returned (.tuple #[]) ∧ Wrote w S (some g) true l (cellB x.e) w' := by
  obtain ⟨u, kk, A, m, c, d⟩ := x
  have hlen : d.length = m := hx.len
  have hm180 : m ≤ 180 := by
    have h9 : cmay ⟨u, kk, d⟩ = true := hc
    have hlen : d.length = m := hlen
    unfold cmay at h9
    cases u with
    | true =>
      simp only [if_true, Bool.and_eq_true, decide_eq_true_eq] at h9
      omega
    | false =>
      simp only [Bool.false_eq_true, if_false, Bool.and_eq_true, beq_iff_eq] at h9
      omega
  have hbx : Blk (w.alloc (.cells #[.bool u, .int .u32 (kk : Int), .slice A m c] 58)) w.heap.size 58 #[.bool u, .int .u32 (kk : Int), .slice A m c] := Blk.new w 58 _
  have hfD : Fr w (w.alloc (.cells #[.bool u, .int .u32 (kk : Int), .slice A m c] 58)) No := (Fr.refl _ _).alloc _
  have hsD : (w.alloc (.cells #[.bool u, .int .u32 (kk : Int), .slice A m c] 58)).heap.size = w.heap.size + 1 := by simp
  obtain ⟨D, hD⟩ : ∃ D, w.alloc (.cells #[.bool u, .int .u32 (kk : Int), .slice A m c] 58) = D := ⟨_, rfl⟩
  rw [hD] at hbx hfD hsD
  have c0 := hbx.cell 0
  have c1 := hbx.cell 1
  have c2 := hbx.cell 2
  simp only [List.getElem?_toArray, List.getElem?_cons_zero, List.getElem?_cons_succ] at c0 c1 c2
  have hnS : ¬ S w.heap.size := fun hs => Nat.lt_irrefl _ (hS _ hs)
  have HWD := Lib.hid (Wr.keep h hfD fun _ _ hn => hn)
  have HU := Lib.hid (wu16_any D S (some g) true l m (by omega) HWD.out)
  have HBX := Lib.hid hbx
  have HFD := Lib.hid hfD
  have HRB := Lib.hid ((hx.b.mono (T := fun b => T b ∧ b < w.heap.size) fun b hlt hb => ⟨hb, hlt⟩).keep hfD fun _ _ hn => hn)
  have HK := Lib.hid hx.k
  have HT := Lib.hid hT
  have hw16 : IntKind.u16.wrap (m : Int) = (m : Int) := by rw [IntKind.wrap_u16]; omega
  have HCB := Lib.hid (show cellB (CV.e ⟨u, kk, A, m, c, d⟩) = Cd.fixB 2 m ++ if u then Cd.fixB 4 kk ++ d else [] by rw [← hlen]; rfl)
  have HDL := Lib.hid hlen
  clear h hS hx hT hc hbx hfD hlen
  simp only [CV.agg]
  simp only [ptr, Option.map] at HU ⊢
  go_enter Try.func69, Try.ntmps69
  go_wp2_with fail
  refine HU.out.mono ?_
  rintro e w1 ⟨rfl, hw1⟩
  have hb1 := HBX.out.keep hw1.2 hnS
  have c0 := hb1.cell 0
  have c1 := hb1.cell 1
  have c2 := hb1.cell 2
  simp only [List.getElem?_toArray, List.getElem?_cons_zero, List.getElem?_cons_succ] at c0 c1 c2
  have H1 := Lib.hid hw1
  have HB1 := Lib.hid hb1
  clear hw1 hb1
  cases u with
  | false =>
    go_wp2_with fail
    refine bodyPost_end (results_none rfl _ _ _) rfl ?_
    refine ⟨rfl, ?_⟩
    rw [HCB.out]
    show Wrote w S (some g) true l (Cd.fixB 2 m ++ []) w1
    rw [List.append_nil]
    exact Wrote.ahead HFD.out H1.out
  | true =>
    have hn1 : ¬ Up S D w.heap.size := fun hh => hh.elim hnS fun h => by omega
    have HU2 := Lib.hid (wu32_any w1 (Up S D) (some g) true (l ++ Cd.fixB 2 m) kk (by rw [List.length_append, Cd.fixB_len]; omega) H1.out.1)
    simp only [ptr, Option.map] at HU2
    go_wp2_with fail
    refine HU2.out.mono ?_
    rintro e w2 ⟨rfl, hw2⟩
    have hb2 := HB1.out.keep hw2.2 hn1
    have c0 := hb2.cell 0
    have c1 := hb2.cell 1
    have c2 := hb2.cell 2
    simp only [List.getElem?_toArray, List.getElem?_cons_zero, List.getElem?_cons_succ] at c0 c1 c2
    have hrb2 : RB w2 (fun b => T b ∧ b < w.heap.size) A m d := (HRB.out.keep H1.out.2 fun b hb hs => HT.out b hb.1 hs).keep hw2.2 fun b hb hs => hs.elim (HT.out b hb.1) fun hs => by have := hb.2; omega
    have HU3 := Lib.hid (wraw_any w2 (Up (Up S D) w1) (fun b => T b ∧ b < w.heap.size) (some g) true ((l ++ Cd.fixB 2 m) ++ Cd.fixB 4 kk) A m c d hrb2 (by omega) (by rw [List.length_append, List.length_append, Cd.fixB_len, Cd.fixB_len]; omega) hw2.1)
    have H2 := Lib.hid hw2
    simp only [ptr, Option.map] at HU3
    clear hw2 hb2 hrb2
    go_wp2_with fail
    refine HU3.out.mono ?_
    rintro e w3 ⟨rfl, hw3⟩
    have H3 := Lib.hid hw3
    clear hw3
    go_wp2_with fail
    refine bodyPost_end (results_none rfl _ _ _) rfl ?_
    refine ⟨rfl, ?_⟩
    rw [HCB.out]
    exact Wrote.ahead HFD.out (H1.out.more (H2.out.more H3.out))
theorem run_mk508 (n : Nat) (hn : n ≤ 1000) (u : World) : (Instr.makeSlice 32 (.int .i64 (n : Int)) (.int .i64 (n : Int))).run Try.prog u =
    .ok (.slice (some ⟨u.heap.size, 0, none⟩) n n) (u.alloc (.cells (u8s (List.replicate n 0)).toArray 5)) := by
  obtain ⟨i0, hi, hz0, hz1, hz2⟩ := info_parts info5
  have h := run_make (P := Try.prog) u 32 5 i0 (.int .u8 0) Try.underlying32 hi hz0 .i64 .i64 (n : Int) (n : Int) (by omega) (Int.le_refl _) (by rw [hz2]; omega) (by omega)
  have hmm : madeCells #[Value.int .u8 0] n = (u8s (List.replicate n 0)).toArray := by
    apply Array.ext
    · simp [madeCells, u8s]
    · intro i h1 h2
      simp [madeCells, u8s]
      rw [Nat.mod_one]
      rfl
  simpa [hz1, Value.cells, hmm] using h
theorem may_parts {k : Int} {l : List CE} (h : may k l = true) : l.all cmay = true ∧ (k = 1 ∨ k = 2 ∨ k = 3) := by
  have hm := h
  rw [← rmay_eq] at hm
  unfold rmay at hm
  unfold may at h
  simp only [Bool.and_eq_true, decide_eq_true_eq] at hm h
  exact ⟨h.2.1, by omega⟩
set_option maxHeartbeats 4000000 in
set_option maxRecDepth 100000 in
theorem writePage_any (p : PV) (w : World) (h : p.In w All All) (hm : may p.k p.es = true) : Calls Try.prog 43 #[p.agg] w (New w (bodyB p.k.toNat p.s p.x p.es)) := by
  obtain ⟨W, hW, hBW, hbx, hsz⟩ := box_page w p
  obtain ⟨y0, y1, y2, y3⟩ := pcs_cells hbx
  obtain ⟨hall, hk⟩ := may_parts hm
  obtain ⟨hz1, hz2, hz3⟩ := may_psz hm
  have HP := Lib.hid ((h.mono (S' := All) (T' := fun b => b < w.heap.size) (fun _ _ _ => trivial) fun b hb _ => hb).below hBW)
  have HBW := Lib.hid hBW
  have HBX := Lib.hid hbx
  have HSZ := Lib.hid hsz
  have HE1 : Hid (p.es.length = p.n) := h.len
  have hkn : ∃ kn : Nat, p.k = (kn : Int) ∧ kn < 256 ∧ p.k.toNat = kn := ⟨p.k.toNat, by omega, by omega, rfl⟩
  obtain ⟨kn, hkn, hkn2, hkn3⟩ := hkn
  rw [hkn3]
  obtain ⟨pk, ps, px, A, n, c, l⟩ := p
  simp only at hW y0 y1 y2 y3 hkn
  subst hkn
  have HALL := Lib.hid hall
  have hn60 : n ≤ 60 := by have h1 : (PV.es ⟨(kn : Int), ps, px, A, n, c, l⟩).length = n := HE1.out; omega
  have HZ := Lib.hid hz1
  have HNW := Lib.hid (newWriter_any W)
  have HBO := Lib.hid (show bodyB kn ps px (l.map CV.e) = (headB kn n ps px ++ cellsB (l.map CV.e)) ++ List.replicate (508 - (headB kn n ps px ++ cellsB (l.map CV.e)).length) 0 by
    have h1 : (l.map CV.e).length = n := HE1.out
    rw [bodyB, h1])
  have w8a : IntKind.u8.wrap (kn : Int) = (kn : Int) := by rw [IntKind.wrap_u8]; omega
  have w8b : IntKind.u8.wrap (n : Int) = (n : Int) := by rw [IntKind.wrap_u8]; omega
  clear h hm hall hk hz1 hz2 hz3 hbx hBW hsz hkn3
  simp only [PV.agg, PV.es]
  simp only [ptr, Option.map] at HNW
  go_enter Try.func43, Try.ntmps43
  go_wp2_with fail
  refine HNW.out.mono ?_
  rintro e w1 ⟨rfl, hwr, hb1⟩
  obtain ⟨y0, y1, y2, y3⟩ := pcs_cells (HBX.out.below hb1 (by have := HSZ.out; omega))
  simp only at y0 y1 y2 y3
  have HI := Lib.hid (show ∃ S, WI W w1 W.heap.size [] S from ⟨fun b => W.heap.size ≤ b ∧ b < w1.heap.size, Wr.mono hwr fun b hlt hb => ⟨hb, hlt⟩, fun b hb => hb, Fr.of_below hb1 No⟩)
  obtain ⟨g, hg⟩ : ∃ g, g = W.heap.size := ⟨_, rfl⟩
  rw [← hg] at HI ⊢
  have HG := Lib.hid hg
  clear hwr hb1 hg HNW
  obtain ⟨Sa, HIa⟩ := HI.out
  have HU := Lib.hid (wu8_any w1 Sa (some g) true [] kn hkn2 (by simp) HIa.h)
  simp only [ptr, Option.map] at HU
  go_wp2_with fail
  refine HU.out.mono ?_
  rintro e va ⟨rfl, hw⟩
  have hi := HIa.wrote hw
  obtain ⟨y0, y1, y2, y3⟩ := pcs_cells (HBX.out.keep (hi.elim fun _ h => h.f) fun hn => hn)
  simp only at y0 y1 y2 y3
  have HI := Lib.hid hi
  clear HU hw hi HIa Sa
  obtain ⟨Sb, HIb⟩ := HI.out
  have HU := Lib.hid (wu8_any va Sb (some g) true ([] ++ Cd.fixB 1 kn) n (by omega) (by simp [Cd.fixB_len]) HIb.h)
  simp only [ptr, Option.map] at HU
  go_wp2_with fail
  refine HU.out.mono ?_
  rintro e vb ⟨rfl, hw⟩
  have hi := HIb.wrote hw
  obtain ⟨y0, y1, y2, y3⟩ := pcs_cells (HBX.out.keep (hi.elim fun _ h => h.f) fun hn => hn)
  simp only at y0 y1 y2 y3
  have HI := Lib.hid hi
  clear HU hw hi HIb Sb
  obtain ⟨Sc, HIc⟩ := HI.out
  have HU := Lib.hid (wu64_any vb Sc (some g) true (([] ++ Cd.fixB 1 kn) ++ Cd.fixB 1 n) ps (by simp [Cd.fixB_len]) HIc.h)
  simp only [ptr, Option.map] at HU
  go_wp2_with fail
  refine HU.out.mono ?_
  rintro e vc ⟨rfl, hw⟩
  have hi := HIc.wrote hw
  obtain ⟨y0, y1, y2, y3⟩ := pcs_cells (HBX.out.keep (hi.elim fun _ h => h.f) fun hn => hn)
  simp only at y0 y1 y2 y3
  have HI := Lib.hid hi
  clear HU hw hi HIc Sc
  obtain ⟨Sd, HId⟩ := HI.out
  have HU := Lib.hid (wu32_any vc Sd (some g) true ((([] ++ Cd.fixB 1 kn) ++ Cd.fixB 1 n) ++ Cd.fixB 8 ps) px (by simp [Cd.fixB_len]) HId.h)
  simp only [ptr, Option.map] at HU
  go_wp2_with fail
  refine HU.out.mono ?_
  rintro e vd ⟨rfl, hw⟩
  have hi := HId.wrote hw
  obtain ⟨y0, y1, y2, y3⟩ := pcs_cells (HBX.out.keep (hi.elim fun _ h => h.f) fun hn => hn)
  simp only at y0 y1 y2 y3
  have HI := Lib.hid hi
  clear HU hw hi HId Sd
  have HI0 := Lib.hid (show ∃ S, WI W vd g (headB kn n ps px ++ cellsB ((l.map CV.e).take 0)) S by
    have h := HI.out
    rw [List.nil_append] at h
    show ∃ S, WI W vd g (headB kn n ps px ++ []) S
    rw [List.append_nil]
    exact h)
  clear HI
  go_wp2_with fail
  go_loopw [29] (fun i wr => ∃ k : Nat, k ≤ n ∧ i = .int .i64 (k : Int) ∧ ∃ S, WI W wr g (headB kn n ps px ++ cellsB ((l.map CV.e).take k)) S) (fun i _ => n - (intOf i).toNat)
  case atStart => exact ⟨0, by omega, rfl, HI0.out⟩
  case round =>
    obtain ⟨k, hk, rfl, S, hwi⟩ := hrel
    have HWI := Lib.hid hwi
    have hfr := hwi.f
    have hbw : Below W.heap.size W wr := hfr.no_below
    obtain ⟨y0, y1, y2, y3⟩ := pcs_cells (HBX.out.keep hfr fun hn => hn)
    simp only at y0 y1 y2 y3
    have hlen1 : (headB kn n ps px ++ cellsB ((l.map CV.e).take k)).length + 4 = psz ((l.map CV.e).take k) := by
      have h1 := cellsB_len (es := (l.map CV.e).take k) (by
        rw [List.all_eq_true]
        intro x hx
        exact List.all_eq_true.1 HALL.out x (List.mem_of_mem_take hx))
      rw [List.length_append, headB_len]
      omega
    have hlen2 := psz_mono (l.map CV.e) k
    have hz : psz (l.map CV.e) ≤ 512 := HZ.out
    have hlen3 : (headB kn n ps px ++ cellsB ((l.map CV.e).take k)).length ≤ 508 := by omega
    have HL3 := Lib.hid hlen3
    clear hwi hlen1 hlen2 hz
    by_cases hlt : k < n
    · obtain ⟨gg, o, x, rfl, hgg, _, hx, hxi, b0, b1, b2⟩ := (HP.out.r.below hbw).at_ hlt
      have HX := Lib.hid (es_at hx)
      have HXC := Lib.hid (show cmay x.e = true from List.all_eq_true.1 HALL.out x.e (List.mem_map_of_mem (List.mem_of_getElem? hx)))
      have hDB : Below wr.heap.size wr (wr.alloc (.cells #[.bool x.u, .int .u32 (x.k : Int), .slice x.A x.m x.c] 58)) := (Below.refl _ _).alloc (Nat.le_refl _) _
      have hbn := Blk.new wr 58 #[.bool x.u, .int .u32 (x.k : Int), .slice x.A x.m x.c]
      obtain ⟨D, hD⟩ : ∃ D, wr.alloc (.cells #[.bool x.u, .int .u32 (x.k : Int), .slice x.A x.m x.c] 58) = D := ⟨_, rfl⟩
      rw [hD] at hDB hbn
      have c0 := hbn.cell 0
      have c1 := hbn.cell 1
      have c2 := hbn.cell 2
      simp only [List.getElem?_toArray, List.getElem?_cons_zero, List.getElem?_cons_succ] at c0 c1 c2
      have hWD := HWI.out.below hDB
      have HWC := Lib.hid (writeCell_any D S g _ hWD.h (fun b hb => (hWD.s b hb).2) (by omega) x (fun b => b < w.heap.size) (hxi.below hDB) (fun b hb hs => by have := (hWD.s b hs).1; have := HSZ.out; omega) HXC.out)
      have HWD := Lib.hid hWD
      have hWi : IntKind.i64.wrap ((k : Int) + 1) = ((k + 1 : Nat) : Int) := by rw [IntWalk.i64_in _ (by omega)]; omega
      have hin : ((k : Int) < (n : Int)) := by omega
      obtain ⟨u, kk, xA, m, xc, d⟩ := x
      simp only at b0 b1 b2 c0 c1 c2 hD
      simp only [CV.agg, ptr, Option.map] at HWC
      clear hx hxi hDB hbn hWD
      go_wp2_with fail
      refine HWC.out.mono ?_
      rintro e w5 ⟨rfl, hw5⟩
      have HN := Lib.hid (HWD.out.wrote hw5)
      clear hw5
      go_wp2_with fail
      go_roundw
      case rel =>
        refine ⟨k + 1, by omega, by go_num, ?_⟩
        have h := HN.out
        rw [cellsB_take HX.out, ← List.append_assoc]
        exact h
      case measure => simp [intOf]; omega
    · have h1d : decide ((k : Int) < (n : Int)) = false := decide_eq_false (by omega)
      have h1d2 : decide (k < n) = false := decide_eq_false hlt
      have htk : (l.map CV.e).take k = l.map CV.e := List.take_of_length_le (by have h1 : (l.map CV.e).length = n := HE1.out; omega)
      rw [htk] at HWI HL3
      obtain ⟨B, hB⟩ : ∃ B, B = headB kn n ps px ++ cellsB (l.map CV.e) := ⟨_, rfl⟩
      rw [← hB] at HWI HL3 HBO
      obtain ⟨q, hq⟩ : ∃ q, q = B.length := ⟨_, rfl⟩
      have hq5 : q ≤ 508 := by rw [hq]; exact HL3.out
      obtain ⟨r, hr⟩ : ∃ r, r = 508 - q := ⟨_, rfl⟩
      have hsub : IntKind.i64.wrap (508 - (q : Int)) = (r : Int) := by rw [IntWalk.i64_in _ (by omega)]; omega
      have HLE := Lib.hid (wlen_any wr S (some g) true B HWI.out.h)
      rw [← hq] at HLE HBO
      rw [← hr] at HBO
      have hmk := run_mk508 r (by omega) wr
      have hDB : Below wr.heap.size wr (wr.alloc (.cells (u8s (List.replicate r 0)).toArray 5)) := (Below.refl _ _).alloc (Nat.le_refl _) _
      have hbz := Blk.new wr 5 (u8s (List.replicate r 0)).toArray
      obtain ⟨D, hD⟩ : ∃ D, wr.alloc (.cells (u8s (List.replicate r 0)).toArray 5) = D := ⟨_, rfl⟩
      rw [hD] at hDB hbz hmk
      have hWD := HWI.out.below hDB
      have hrz : RB D All (some ⟨wr.heap.size, 0, none⟩) r (List.replicate r 0) := RB.of_blk hbz trivial (fun x hx => by rw [List.eq_of_mem_replicate hx]; omega) List.length_replicate
      have HRW := Lib.hid (wraw_any D S All (some g) true B (some ⟨wr.heap.size, 0, none⟩) r r (List.replicate r 0) hrz (by omega) (by rw [← hq]; omega) hWD.h)
      have HWD := Lib.hid hWD
      have HQ := Lib.hid hq
      have HR := Lib.hid hr
      simp only [ptr, Option.map] at HLE HRW
      clear htk hDB hbz hWD hrz hq hr hB
      go_wp2_with fail
      refine HLE.out.mono ?_
      rintro e w5 ⟨rfl, rfl⟩
      go_wp2_with fail
      refine HRW.out.mono ?_
      rintro e w6 ⟨rfl, hw6⟩
      obtain ⟨S6, h6⟩ := HWD.out.wrote hw6
      have hbl : (B ++ List.replicate r 0).length = 508 := by rw [List.length_append, List.length_replicate, ← HQ.out, HR.out]; omega
      have HBY := Lib.hid (wbytes_any w6 S6 (some g) true (B ++ List.replicate r 0) h6.h (by omega))
      have H6 := Lib.hid h6
      simp only [ptr, Option.map] at HBY
      clear hw6 h6 hbl
      go_wp2_with fail
      refine HBY.out.mono ?_
      rintro e w7 ⟨v, rfl, hown, hb7⟩
      have HO := Lib.hid hown
      have HB7 := Lib.hid hb7
      clear hown hb7
      go_wp2_with fail
      go_ret
      refine ⟨v, rfl, ?_, HBW.out.trans ((H6.out.f.no_below.mono HBW.out.size).trans (HB7.out.mono (by have := HBW.out.size; have := H6.out.f.size; omega)))⟩
      rw [HBO.out]
      exact HO.out.mono fun b _ hb => by have := HBW.out.size; have := H6.out.f.size; omega

end Go.Proofs.Ytajmpoanmdgmpaa
