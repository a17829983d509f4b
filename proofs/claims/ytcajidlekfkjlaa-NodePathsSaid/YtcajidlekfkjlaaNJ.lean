/-
STAGE 8: seek.
-/
import Derived.Test.YtcajidlekfkjlaaNI
import Derived.Test.YtcajidlekfkjlaaNH
namespace Go.Proofs.Ytcajidlekfkjlaa
open Go.RowKit

set_option maxRecDepth 100000 in
theorem okP_rise {p : PV} (h : okP p = true) : rise (eo p.k) p.es = true ∧ p.es.length ≤ 60 ∧ (p.k = 2 ∨ p.k = 3) ∧ ∀ c ∈ p.es, c.u = true → eo p.k < c.d.length := by
  unfold okP may stand at h
  simp only [Bool.and_eq_true, Bool.or_eq_true, decide_eq_true_eq, List.all_eq_true] at h
  obtain ⟨⟨hl, hc, _, hs⟩, hk⟩ := h
  have hk' : p.k = 2 ∨ p.k = 3 := by rcases hk with h | h; exact Or.inl h; exact Or.inr h.1
  rcases hk' with hk' | hk'
  · rw [if_neg (by omega), if_neg (by omega), if_pos hk'] at hs
    refine ⟨by unfold eo; rw [if_neg (by omega)]; exact hs, hl, Or.inl hk', fun c hcm hu => ?_⟩
    have := hc c hcm
    unfold cmay at this
    rw [if_pos hu] at this
    simp only [Bool.and_eq_true, decide_eq_true_eq] at this
    unfold eo
    rw [if_neg (by omega)]
    omega
  · rw [if_neg (by omega), if_pos hk'] at hs
    simp only [Bool.and_eq_true, List.all_eq_true] at hs
    refine ⟨by unfold eo; rw [if_pos hk']; exact hs.2, hl, Or.inr hk', fun c hcm _ => ?_⟩
    have := hs.1 c hcm
    unfold innc at this
    simp only [Bool.and_eq_true, decide_eq_true_eq] at this
    unfold eo
    rw [if_pos hk']
    exact this.2
set_option maxRecDepth 100000 in
theorem okP_le {p : PV} {w : World} {S T : Nat → Prop} (hi : p.In w S T) (h : okP p = true) : ∀ y ∈ p.l, eo p.k ≤ y.m := by
  intro y hy
  obtain ⟨hr, _, _, hc⟩ := okP_rise h
  have hm : y.e ∈ p.es := List.mem_map_of_mem hy
  have hu : y.e.u = true := by
    obtain ⟨i, hi, e⟩ := List.getElem_of_mem hm
    have := (rise_at hr hi).1
    rw [getD_lt hi, e] at this
    exact this
  have := hc _ hm hu
  have hl := (hi.r.2.1 y hy).len
  change eo p.k < y.d.length at this
  omega
/-- along the leaves -/
def seekL (G : Option TV) (x : List Nat) : Nat → Nat → PV → Except Int (Nat × Nat)
  | f, n, p => if placeN p x < p.n then .ok (n, placeN p x) else if p.x = 0 then .error 6 else match f with
    | 0 => .error 5
    | f + 1 => match askM G p.x with
      | .error c => .error c
      | .ok p' => if p'.k = 2 then seekL G x f p.x p' else .error 5
def seekM (G : Option TV) (x : List Nat) (n : Nat) : Except Int (Nat × Nat) := if n = 0 then .error 1 else match wayM G x 8 n with
  | .error c => .error c
  | .ok l => match l.getLast? with
    | some i => seekL G x 8191 i.t i.p
    | none => .error 1
def SeekR (w : World) (R : Except Int (Nat × Nat)) (e : Ending) (w' : World) : Prop := match R with
  | .ok q => e = .returned (.agg #[.int .u32 (q.1 : Int), .int .i64 (q.2 : Int)]) ∧ Below w.heap.size w w'
  | .error c => e = Flt c ∧ Below w.heap.size w w'
set_option maxRecDepth 100000 in
/-- the last of the way is a leaf that was told -/
theorem wayM_last {G : Option TV} {x : List Nat} : ∀ (f n : Nat) (l : List IV), wayM G x f n = .ok l → ∃ i, l.getLast? = some i ∧ l[l.length - 1]? = some i ∧ i.p.k = 2 ∧ ∃ q, askM G q = .ok i.p
  | 0, _, _, h => by cases h
  | f + 1, n, l, h => by
    unfold wayM at h
    split at h
    · cases h
    · rename_i p hp
      split at h
      · rename_i hk
        injection h with h; subst h
        exact ⟨⟨n, p⟩, rfl, rfl, hk, n, hp⟩
      · cases hw : wayM G x f (childM p x) with
        | error c => rw [hw] at h; cases h
        | ok l' =>
          rw [hw] at h
          simp only [Except.map] at h
          injection h with h
          subst h
          obtain ⟨i, h1, h2, h3⟩ := wayM_last f _ l' hw
          have := wayM_len f _ l' hw
          refine ⟨i, ?_, ?_, h3⟩
          · rw [List.getLast?_cons, h1]; rfl
          · have e : (⟨n, p⟩ :: l').length - 1 = (l'.length - 1) + 1 := by simp; omega
            rw [e, List.getElem?_cons_succ]
            exact h2
set_option maxHeartbeats 4000000 in
set_option maxRecDepth 100000 in
theorem seek_any (G : Option TV) (n : Nat) (A : Option Addr) (c : Nat) (x : List Nat) (w : World) (S : Nat → Prop) (hn : n < 4294967296) (h0 : n ≠ 0) (h : GIn w S G) (hx : RB w All A x.length x) (hch : ChildOk w G A x.length c x) :
    Calls Try.prog 31 #[gV G, .int .u32 (n : Int), .slice A x.length c] w (SeekR w (seekM G x n)) := by
  obtain ⟨R, hR⟩ : ∃ R, R = seekM G x n := ⟨_, rfl⟩
  obtain ⟨g, hg⟩ : ∃ g, g = gV G := ⟨_, rfl⟩
  obtain ⟨m, hm⟩ : ∃ m, m = x.length := ⟨_, rfl⟩
  rw [← hR, ← hg, ← hm]
  have hb0 : Below w.heap.size w (w.alloc (.cells #[.int .u32 0, .int .i64 0] 68)) := (Below.refl _ _).alloc (Nat.le_refl _) _
  have hwd := wayDown_any G n A m c x (w.alloc (.cells #[.int .u32 0, .int .i64 0] 68)) S hn (h.below hb0) ((hm ▸ hch).below hb0)
  rw [← hg] at hwd
  unfold seekM at hR
  rw [if_neg h0] at hR
  cases hw : wayM G x 8 n with
  | error cd =>
    have HE : Hid (R = .error cd) := by rw [hR, hw]; exact Lib.hid rfl
    rw [hw] at hwd
    have HWD := Lib.hid hwd
    have HB0 := Lib.hid hb0
    clear hR hg hm hb0 hwd hw h0 h hx hch hn
    go_enter Try.func31, Try.ntmps31
    go_wp2_with fail
    refine HWD.out.mono ?_
    rintro e w1 ⟨rfl, hb1⟩
    have HB1 := Lib.hid (HB0.out.trans (hb1.mono HB0.out.size))
    clear hb1
    unfold Flt
    go_wp2_with fail
    refine ⟨rfl, ?_⟩
    rw [HE.out]
    exact ⟨rfl, HB1.out⟩
  | ok l =>
    obtain ⟨i, hlast, hat, hik, iq, hask⟩ := wayM_last 8 n l hw
    have hlen := wayM_len 8 n l hw
    have hR2 : R = seekL G x 8191 i.t i.p := by rw [hR, hw]; simp only [hlast]
    have HR2 := Lib.hid hR2
    rw [hw] at hwd
    have HWD := Lib.hid hwd
    have HB0 := Lib.hid hb0
    have HG := Lib.hid h
    have HX := Lib.hid hx
    have HCH := Lib.hid hch
    have HAT := Lib.hid hat
    have HIK := Lib.hid hik
    have HASK := Lib.hid hask
    have HLEN := Lib.hid hlen
    have HGG := Lib.hid hg
    have HM := Lib.hid hm
    clear hR hR2 hg hm hb0 hwd hw h0 h hx hch hn hlast hat hik hask hlen
    go_enter Try.func31, Try.ntmps31
    go_wp2_with fail
    refine HWD.out.mono ?_
    rintro e w1 ⟨v, rfl, hov, hb1⟩
    obtain ⟨vA, vc, rfl, _, _, _, hri⟩ := hov.reads (by have := HLEN.out; omega)
    obtain ⟨gg, o, xx, hA, hgl, _, hxx, hxi, c0, c1, c2, c3, c4⟩ := hri.at_ (i := l.length - 1) (by have := HLEN.out; omega)
    have hxe : xx = i := by rw [HAT.out] at hxx; injection hxx with e; exact e.symm
    subst hxe hA
    obtain ⟨nl, hnl⟩ : ∃ nl, nl = l.length := ⟨_, rfl⟩
    obtain ⟨q, hq⟩ : ∃ q, q = l.length - 1 := ⟨_, rfl⟩
    rw [← hq] at c0 c1 c2 c3 c4
    rw [← hnl]
    have s1 : (nl : Int) - 1 = (q : Int) := by have := HLEN.out; omega
    have s2 : IntKind.i64.wrap (q : Int) = (q : Int) := IntWalk.i64_in _ (by have := HLEN.out; omega)
    have s3 : (q : Int) < (nl : Int) := by have := HLEN.out; omega
    have s4 : q < nl := by omega
    have s5 : (0 : Int) ≤ (q : Int) := by omega
    have HB1 := Lib.hid (HB0.out.trans (hb1.mono HB0.out.size))
    have HRB := Lib.hid ((Blk.new w 68 #[.int .u32 0, .int .i64 0]).below hb1 (by simp))
    have HXI := Lib.hid hxi
    have HQ := Lib.hid hq
    have HNL := Lib.hid hnl
    clear hb1 hov hri hxx hxi hq hnl
    go_wp2_with fail
    go_region
    obtain ⟨W0, hW0⟩ : ∃ W0, W0 = (w1.alloc (.cells #[.int .i64 xx.p.k, .int .u64 (xx.p.s : Int), .int .u32 (xx.p.x : Int), .slice xx.p.A xx.p.n xx.p.c] 51)).drew := ⟨_, rfl⟩
    obtain ⟨B9, hB9⟩ : ∃ B9, B9 = w1.heap.size := ⟨_, rfl⟩
    have hbW0 : Below w.heap.size w W0 := by rw [hW0]; exact (HB1.out.alloc HB1.out.size _).drew
    have b9 : Blk W0 B9 51 (pcs xx.p) := by rw [hW0, hB9]; exact (Blk.new w1 51 _).drew
    have b6 : Blk W0 w.heap.size 68 #[.int .u32 0, .int .i64 0] := by rw [hW0]; exact (HRB.out.alloc _).drew
    have hlt9 : w.heap.size < B9 := by rw [hB9]; exact HRB.out.lt
    rw [← hW0, ← hB9]
    have HBW0 := Lib.hid hbW0
    have H9 := Lib.hid b9
    have H6 := Lib.hid b6
    have HLT9 := Lib.hid hlt9
    clear hW0 hB9 hbW0 b9 b6 hlt9 c0 c1 c2 c3 c4 s1 s2 s3 s4 s5
    go_wp2_with fail
    go_loopw [8, 10, 11] (fun v8 v10 v11 wr => ∃ (f k : Nat) (p : PV), v8 = .int .u32 (k : Int) ∧ v10 = .int .i64 ((8192 - f : Nat) : Int) ∧ f ≤ 8191 ∧ Blk wr B9 51 (pcs p) ∧ Blk wr w.heap.size 68 #[.int .u32 0, .int .i64 0] ∧ Below w.heap.size w wr ∧ p.k = 2 ∧ (∃ q, askM G q = .ok p) ∧ R = seekL G x f k p) (fun _ v10 _ _ => 8192 - (intOf v10).toNat)
    case atStart =>
      exact ⟨8191, xx.t, xx.p, rfl, rfl, by decide, H9.out, H6.out, HBW0.out, HIK.out, ⟨_, HASK.out⟩, HR2.out⟩
    case round =>
      obtain ⟨f, k, p, rfl, rfl, hf, hb9, hb6, hb, hpk, ⟨iq2, hpa⟩, hRk⟩ := hrel
      obtain ⟨gone, hgone⟩ : ∃ gone, gone = 8192 - f := ⟨_, rfl⟩
      rw [← hgone]
      have HGO := Lib.hid hgone
      have HF := Lib.hid hf
      clear hgone hf
      obtain ⟨hpi, hpf⟩ := ask_in HG.out hpa
      have hok : okP p = true := (ask_ok_inv hpa).elim fun _ ⟨_, _, _, h⟩ => h
      have hri := okP_rise hok
      have hplace := placeOf_any p A m c x wr (hpi.all.below hb) (by rw [HM.out]; exact HX.out.keep (Fr.of_below hb No) fun _ _ hn => hn) (okP_le hpi hok) hri.1 (by have := hpi.len; omega)
      obtain ⟨y0, y1, y2, y3⟩ := pcs_cells hb9
      have z0 := hb6.cell 0
      have z1 := hb6.cell 1
      have zf0 := hb6.frozen 0
      have zf1 := hb6.frozen 1
      have HASKX := Lib.hid (fun (W : World) (hW : Below w.heap.size w W) (p' : PV) (hp : askM G p.x = .ok p') => HGG.out ▸ ask_ok (HG.out.below hW) hp)
      have HASKN := Lib.hid (fun (W : World) (hW : Below w.heap.size w W) (c : Int) (hp : askM G p.x = .error c) => HGG.out ▸ ask_no (HG.out.below hW) hp)
      obtain ⟨q, hq⟩ : ∃ q, q = placeN p x := ⟨_, rfl⟩
      have hRk2 := hRk
      unfold seekL at hRk2
      rw [← hq] at hplace hRk2
      have HRK := Lib.hid hRk2
      have HB := Lib.hid hb
      have HB9 := Lib.hid hb9
      have HB6 := Lib.hid hb6
      have HPN : Hid (p.n ≤ 60) := Lib.hid (by have := hpi.len; omega)
      have HPX : Hid (p.x < 4294967296) := Lib.hid hpi.x
      obtain ⟨pk, ps, px, pA, pn, pc, pl⟩ := p
      unfold PV.agg at hplace
      dsimp only at y0 y1 y2 y3 HASKX HASKN HRK HPN HPX hpk
      have HPL := Lib.hid hplace
      have HPK := Lib.hid hpk
      clear hb hb9 hb6 hpi hpf hok hri hplace hpa hRk hRk2 hq hpk
      by_cases h1 : q < pn
      · have d1 : decide ((q : Int) < (pn : Int)) = true := decide_eq_true (by omega)
        have d1b : decide (q < pn) = true := decide_eq_true h1
        have HE : Hid (R = .ok (k, q)) := by rw [HRK.out, if_pos h1]; exact Lib.hid rfl
        go_wp2_with fail
        refine HPL.out.mono ?_
        rintro e w2 ⟨rfl, hb2⟩
        have b9 := HB9.out.below hb2 HB9.out.lt
        have b6 := HB6.out.below hb2 HB6.out.lt
        obtain ⟨y0, y1, y2, y3⟩ := pcs_cells b9
        have H6' := Lib.hid b6
        have z0 := b6.cell 0
        have z1 := b6.cell 1
        have zf0 := b6.frozen 0
        have zf1 := b6.frozen 1
        have HB2 := Lib.hid (HB.out.trans (hb2.mono HB.out.size))
        clear hb2 b9 b6
        dsimp only at y0 y1 y2 y3
        have e0 := ((H6'.out.set_ 0 (.int .u32 (k : Int))).set_ 1 (.int .i64 (q : Int))).cell 0
        have e1 := ((H6'.out.set_ 0 (.int .u32 (k : Int))).set_ 1 (.int .i64 (q : Int))).cell 1
        have E0 := Lib.hid e0
        have E1 := Lib.hid e1
        clear e0 e1
        go_wp2_with fail
        have e0 := E0.out
        have e1 := E1.out
        refine bodyPost_ret (v := .agg #[.int .u32 (k : Int), .int .i64 (q : Int)]) (by simp [results, Try.results31, go_sem, e0, e1]) rfl ?_
        rw [HE.out]
        exact ⟨rfl, (HB2.out.setCell (p := ⟨w.heap.size, 0, none⟩) (Nat.le_refl _) _).setCell (p := ⟨w.heap.size, 1, none⟩) (Nat.le_refl _) _⟩
      · have d1 : decide ((q : Int) < (pn : Int)) = false := decide_eq_false (by omega)
        have d1b : decide (q < pn) = false := decide_eq_false h1
        have HRK1 := HRK.out
        rw [if_neg h1] at HRK1
        by_cases h2 : px = 0
        · have d2 : ((px : Int) != 0) = false := by rw [h2]; rfl
          have HE : Hid (R = .error 6) := by rw [if_pos h2] at HRK1; exact Lib.hid HRK1
          have HMN := Lib.hid (fun W => must_no 6 W)
          unfold Flt at HMN
          clear HRK1 h2
          go_wp2_with fail
          refine HPL.out.mono ?_
          rintro e w2 ⟨rfl, hb2⟩
          have b9 := HB9.out.below hb2 HB9.out.lt
          have b6 := HB6.out.below hb2 HB6.out.lt
          obtain ⟨y0, y1, y2, y3⟩ := pcs_cells b9
          have H9' := Lib.hid b9
          have H6' := Lib.hid b6
          have HB2 := Lib.hid (HB.out.trans (hb2.mono HB.out.size))
          clear hb2 b9 b6
          dsimp only at y0 y1 y2 y3
          go_wp2_with fail
          refine (HMN.out _).mono ?_
          rintro e w3 ⟨rfl, rfl⟩
          go_wp2_with fail
          refine ⟨rfl, ?_⟩
          rw [HE.out]
          exact ⟨rfl, HB2.out⟩
        · have d2 : ((px : Int) != 0) = true := bne_iff_ne.2 (by omega)
          rw [if_neg h2] at HRK1
          have HMY6 := Lib.hid (fun W => must_yes 6 W)
          have HMY5 := Lib.hid (fun W => must_yes 5 W)
          have HMN := Lib.hid (fun W => must_no 5 W)
          unfold Flt at HMN
          cases f with
          | zero =>
            have HE : Hid (R = .error 5) := Lib.hid HRK1
            have d3 : decide ((gone : Int) < 8192) = false := decide_eq_false (by have := HGO.out; omega)
            have d3b : decide (gone < 8192) = false := decide_eq_false (by have := HGO.out; omega)
            clear HRK1 h2
            go_wp2_with fail
            refine HPL.out.mono ?_
            rintro e w2 ⟨rfl, hb2⟩
            have b9 := HB9.out.below hb2 HB9.out.lt
            have b6 := HB6.out.below hb2 HB6.out.lt
            obtain ⟨y0, y1, y2, y3⟩ := pcs_cells b9
            have H9' := Lib.hid b9
            have H6' := Lib.hid b6
            have HB2 := Lib.hid (HB.out.trans (hb2.mono HB.out.size))
            clear hb2 b9 b6
            dsimp only at y0 y1 y2 y3
            go_wp2_with fail
            refine (HMY6.out _).mono ?_
            rintro e w3 ⟨rfl, rfl⟩
            go_wp2_with fail
            refine (HMN.out _).mono ?_
            rintro e w3 ⟨rfl, rfl⟩
            go_wp2_with fail
            refine ⟨rfl, ?_⟩
            rw [HE.out]
            exact ⟨rfl, HB2.out⟩
          | succ f =>
            have hgone := HGO.out
            have hf := HF.out
            have d3 : decide ((gone : Int) < 8192) = true := decide_eq_true (by omega)
            have d3b : decide (gone < 8192) = true := decide_eq_true (by omega)
            obtain ⟨gon1, hg1⟩ : ∃ gon1, gon1 = 8192 - f := ⟨_, rfl⟩
            have s6 : IntKind.i64.wrap ((gone : Int) + 1) = (gon1 : Int) := by rw [IntWalk.i64_in _ (by omega)]; omega
            have HG1 := Lib.hid hg1
            clear hg1
            cases hA : askM G px with
            | error cd =>
              have HE : Hid (R = .error cd) := by simp only [hA] at HRK1; exact Lib.hid HRK1
              have HAN := Lib.hid (fun W hW => HASKN.out W hW cd hA)
              unfold Flt at HAN
              clear HRK1 h2 hf hgone hA
              go_wp2_with fail
              refine HPL.out.mono ?_
              rintro e w2 ⟨rfl, hb2⟩
              have b9 := HB9.out.below hb2 HB9.out.lt
              have b6 := HB6.out.below hb2 HB6.out.lt
              obtain ⟨y0, y1, y2, y3⟩ := pcs_cells b9
              have H9' := Lib.hid b9
              have H6' := Lib.hid b6
              have HB2 := Lib.hid (HB.out.trans (hb2.mono HB.out.size))
              clear hb2 b9 b6
              dsimp only at y0 y1 y2 y3
              go_wp2_with fail
              refine (HMY6.out _).mono ?_
              rintro e w3 ⟨rfl, rfl⟩
              go_wp2_with fail
              refine (HMY5.out _).mono ?_
              rintro e w3 ⟨rfl, rfl⟩
              go_wp2_with fail
              refine (HAN.out _ HB2.out).mono ?_
              rintro e w3 ⟨rfl, hb3⟩
              have HB3 := Lib.hid (HB2.out.trans (hb3.mono HB2.out.size))
              clear hb3
              go_wp2_with fail
              refine ⟨rfl, ?_⟩
              rw [HE.out]
              exact ⟨rfl, HB3.out⟩
            | ok p' =>
              have HE : Hid (R = if p'.k = 2 then seekL G x f px p' else .error 5) := by simp only [hA] at HRK1; exact Lib.hid HRK1
              have HAY := Lib.hid (fun W hW => HASKX.out W hW p' hA)
              have HPA := Lib.hid hA
              obtain ⟨k', s', x', A', n', c', l'⟩ := p'
              unfold PV.agg at HAY
              have D : ((k' == 2) = true ∧ k' = 2) ∨ ((k' == 2) = false ∧ k' ≠ 2) := by
                by_cases h : k' = 2
                · exact Or.inl ⟨by rw [h]; rfl, h⟩
                · exact Or.inr ⟨beq_false_of_ne h, h⟩
              clear HRK1 h2 hf hgone hA
              rcases D with ⟨d4, hk'⟩ | ⟨d4, hk'⟩
              · have HK' := Lib.hid hk'
                clear hk'
                go_wp2_with fail
                refine HPL.out.mono ?_
                rintro e w2 ⟨rfl, hb2⟩
                have b9 := HB9.out.below hb2 HB9.out.lt
                have b6 := HB6.out.below hb2 HB6.out.lt
                obtain ⟨y0, y1, y2, y3⟩ := pcs_cells b9
                have H9' := Lib.hid b9
                have H6' := Lib.hid b6
                have HB2 := Lib.hid (HB.out.trans (hb2.mono HB.out.size))
                clear hb2 b9 b6
                dsimp only at y0 y1 y2 y3
                go_wp2_with fail
                refine (HMY6.out _).mono ?_
                rintro e w3 ⟨rfl, rfl⟩
                go_wp2_with fail
                refine (HMY5.out _).mono ?_
                rintro e w3 ⟨rfl, rfl⟩
                go_wp2_with fail
                refine (HAY.out _ HB2.out).mono ?_
                rintro e w3 ⟨rfl, hb3⟩
                have b9 := H9'.out.below hb3 H9'.out.lt
                have b6 := H6'.out.below hb3 H6'.out.lt
                have HB3 := Lib.hid (HB2.out.trans (hb3.mono HB2.out.size))
                obtain ⟨y0', y1', y2', y3'⟩ := pcs_cells b9
                dsimp only at y0' y1' y2' y3'
                have f0' := b9.frozen 0
                have f1' := b9.frozen 1
                have f2' := b9.frozen 2
                have f3' := b9.frozen 3
                obtain ⟨w4, hw4⟩ : ∃ W, W = (((w3.setCell ⟨B9, 0, none⟩ (.int .i64 k')).setCell ⟨B9, 1, none⟩ (.int .u64 (s' : Int))).setCell ⟨B9, 2, none⟩ (.int .u32 (x' : Int))).setCell ⟨B9, 3, none⟩ (.slice A' n' c') := ⟨_, rfl⟩
                have b9s : Blk w4 B9 51 (pcs ⟨k', s', x', A', n', c', l'⟩) := by rw [hw4]; exact (((b9.set_ 0 _).set_ 1 _).set_ 2 _).set_ 3 _
                have b6s : Blk w4 w.heap.size 68 #[.int .u32 0, .int .i64 0] := by
                  have hne : w.heap.size ≠ B9 := Nat.ne_of_lt HLT9.out
                  rw [hw4]; exact (((b6.far (p := ⟨B9, 0, none⟩) hne _).far (p := ⟨B9, 1, none⟩) hne _).far (p := ⟨B9, 2, none⟩) hne _).far (p := ⟨B9, 3, none⟩) hne _
                have hb4 : Below w.heap.size w w4 := by
                  have hle : w.heap.size ≤ B9 := Nat.le_of_lt HLT9.out
                  rw [hw4]; exact (((HB3.out.setCell (p := ⟨B9, 0, none⟩) hle _).setCell (p := ⟨B9, 1, none⟩) hle _).setCell (p := ⟨B9, 2, none⟩) hle _).setCell (p := ⟨B9, 3, none⟩) hle _
                obtain ⟨u0, _, _, _⟩ := pcs_cells b9s
                have HW4 := Lib.hid hw4
                have HB4 := Lib.hid hb4
                have H9s := Lib.hid b9s
                have H6s := Lib.hid b6s
                rw [hw4] at u0
                clear hb3 b9 b6 b9s b6s hb4 hw4
                dsimp only at u0
                go_wp2_with fail
                refine (HMY5.out _).mono ?_
                rintro e w5 ⟨rfl, rfl⟩
                go_wp2_with fail
                have e4 := HW4.out
                go_roundw
                case rel =>
                  rw [← e4]
                  exact ⟨f, px, _, rfl, by rw [HG1.out], by have := HF.out; omega, H9s.out, H6s.out, HB4.out, HK'.out, ⟨_, HPA.out⟩, by rw [HE.out, if_pos HK'.out]⟩
                case measure => simp [intOf]; have := HG1.out; have := HGO.out; have := HF.out; omega
              · have HK' := Lib.hid hk'
                clear hk'
                go_wp2_with fail
                refine HPL.out.mono ?_
                rintro e w2 ⟨rfl, hb2⟩
                have b9 := HB9.out.below hb2 HB9.out.lt
                have b6 := HB6.out.below hb2 HB6.out.lt
                obtain ⟨y0, y1, y2, y3⟩ := pcs_cells b9
                have H9' := Lib.hid b9
                have H6' := Lib.hid b6
                have HB2 := Lib.hid (HB.out.trans (hb2.mono HB.out.size))
                clear hb2 b9 b6
                dsimp only at y0 y1 y2 y3
                go_wp2_with fail
                refine (HMY6.out _).mono ?_
                rintro e w3 ⟨rfl, rfl⟩
                go_wp2_with fail
                refine (HMY5.out _).mono ?_
                rintro e w3 ⟨rfl, rfl⟩
                go_wp2_with fail
                refine (HAY.out _ HB2.out).mono ?_
                rintro e w3 ⟨rfl, hb3⟩
                have b9 := H9'.out.below hb3 H9'.out.lt
                have b6 := H6'.out.below hb3 H6'.out.lt
                have HB3 := Lib.hid (HB2.out.trans (hb3.mono HB2.out.size))
                obtain ⟨y0', y1', y2', y3'⟩ := pcs_cells b9
                dsimp only at y0' y1' y2' y3'
                have f0' := b9.frozen 0
                have f1' := b9.frozen 1
                have f2' := b9.frozen 2
                have f3' := b9.frozen 3
                obtain ⟨w4, hw4⟩ : ∃ W, W = (((w3.setCell ⟨B9, 0, none⟩ (.int .i64 k')).setCell ⟨B9, 1, none⟩ (.int .u64 (s' : Int))).setCell ⟨B9, 2, none⟩ (.int .u32 (x' : Int))).setCell ⟨B9, 3, none⟩ (.slice A' n' c') := ⟨_, rfl⟩
                have b9s : Blk w4 B9 51 (pcs ⟨k', s', x', A', n', c', l'⟩) := by rw [hw4]; exact (((b9.set_ 0 _).set_ 1 _).set_ 2 _).set_ 3 _
                have b6s : Blk w4 w.heap.size 68 #[.int .u32 0, .int .i64 0] := by
                  have hne : w.heap.size ≠ B9 := Nat.ne_of_lt HLT9.out
                  rw [hw4]; exact (((b6.far (p := ⟨B9, 0, none⟩) hne _).far (p := ⟨B9, 1, none⟩) hne _).far (p := ⟨B9, 2, none⟩) hne _).far (p := ⟨B9, 3, none⟩) hne _
                have hb4 : Below w.heap.size w w4 := by
                  have hle : w.heap.size ≤ B9 := Nat.le_of_lt HLT9.out
                  rw [hw4]; exact (((HB3.out.setCell (p := ⟨B9, 0, none⟩) hle _).setCell (p := ⟨B9, 1, none⟩) hle _).setCell (p := ⟨B9, 2, none⟩) hle _).setCell (p := ⟨B9, 3, none⟩) hle _
                obtain ⟨u0, _, _, _⟩ := pcs_cells b9s
                have HW4 := Lib.hid hw4
                have HB4 := Lib.hid hb4
                have H9s := Lib.hid b9s
                have H6s := Lib.hid b6s
                rw [hw4] at u0
                clear hb3 b9 b6 b9s b6s hb4 hw4
                dsimp only at u0
                go_wp2_with fail
                refine (HMN.out _).mono ?_
                rintro e w5 ⟨rfl, rfl⟩
                have e4 := HW4.out
                go_wp2_with fail
                refine ⟨rfl, ?_⟩
                rw [HE.out, if_neg HK'.out, ← e4]
                exact ⟨rfl, HB4.out⟩
end Go.Proofs.Ytcajidlekfkjlaa
