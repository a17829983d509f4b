/-
STAGE 8: the document's IsEntry, Key, Child. STAGE 8: the document's page. STAGE 8: the child in which a text lies, as the document says it.
-/
import Derived.Test.YtcajidlekfkjlaaOB
import Derived.BigQuiet
import Derived.Deep.Cut
namespace Go.Proofs.Ytcajidlekfkjlaa
open Go.RowKit

set_option maxHeartbeats 1000000 in
set_option maxRecDepth 100000 in
theorem risEntry_any (x : List Nat) (hx : x.length ≤ 9223372036854775807) (w : World) : Calls Try.prog 27 #[.string (strOf x)] w fun e w' => e = .returned (.bool (isE x)) ∧ w' = w := by
  have hs := strOf_size x
  have d1 : decide ((x.length : Int) ≥ 1) = decide (1 ≤ x.length) := by rw [decide_eq_decide]; omega
  have d2 : decide ((x.length : Int) ≤ 146) = decide (x.length ≤ 146) := by rw [decide_eq_decide]; omega
  unfold isE
  obtain ⟨s, hss⟩ : ∃ s, s = strOf x := ⟨_, rfl⟩
  rw [← hss] at hs ⊢
  obtain ⟨n, hn⟩ : ∃ n, n = x.length := ⟨_, rfl⟩
  rw [← hn] at d1 d2 hs hx ⊢
  clear hss hn
  by_cases h1 : 1 ≤ n
  · have e1 : decide (1 ≤ n) = true := decide_eq_true h1
    rw [e1] at d1
    rw [e1, Bool.true_and]
    go_enter Try.func27, Try.ntmps27
    go_wp2_with fail
    go_ret
    exact ⟨rfl, rfl⟩
  · have e1 : decide (1 ≤ n) = false := decide_eq_false h1
    rw [e1] at d1
    rw [e1, Bool.false_and]
    go_enter Try.func27, Try.ntmps27
    go_wp2_with fail
    go_ret
    exact ⟨rfl, rfl⟩
set_option maxHeartbeats 1000000 in
set_option maxRecDepth 100000 in
theorem rkey_any (x : CV) (w : World) {T : Nat → Prop} (h : x.In w T) (hk : 4 ≤ x.m) :
    Calls Try.prog 49 #[x.agg] w fun e w' => e = .returned (.string (strOf (ent 4 x.d))) ∧ Below w.heap.size w w' := by
  have hte := h.ent hk
  have hmc := h.mc
  have hml := h.ml
  have hA := h.b.2.2
  obtain ⟨u, kk, A, m, c, d⟩ := x
  unfold CV.agg
  dsimp only at hmc hml hk hA hte ⊢
  clear h
  obtain ⟨ad, hAd, _⟩ := hA (by omega)
  subst hAd
  obtain ⟨q, hq⟩ : ∃ q, q = m - 4 := ⟨_, rfl⟩
  rw [← hq] at hte
  have hcv := run_conv _ (some ad) q c (ent 4 d) (w.alloc (.cells #[.bool u, .int .u32 (kk : Int), .slice (some ad) m c] 48)) (hte.alloc _)
  have s1 : (m : Int) - 4 = (q : Int) := by omega
  have s2 : IntKind.i64.wrap (q : Int) = (q : Int) := IntWalk.i64_in _ (by omega)
  have s3 : q ≤ c := by omega
  clear hte hq hA hk
  go_enter Try.func49, Try.ntmps49
  go_wp2_with fail
  go_ret
  exact ⟨rfl, (Below.refl _ _).alloc (Nat.le_refl _) _⟩
set_option maxHeartbeats 1000000 in
set_option maxRecDepth 100000 in
theorem rchild_any (x : CV) (w : World) {T : Nat → Prop} (h : x.In w T) (hk : 4 ≤ x.m) :
    Calls Try.prog 50 #[x.agg] w fun e w' => e = .returned (.int .u32 (childN x.d : Int)) ∧ Below w.heap.size w w' := by
  have hmc := h.mc
  have hml := h.ml
  have hlen := h.len
  have hb := h.b.alloc (.cells #[.bool x.u, .int .u32 (x.k : Int), .slice x.A x.m x.c] 48)
  obtain ⟨u, kk, A, m, c, d⟩ := x
  unfold CV.agg
  dsimp only at hmc hml hk hb hlen ⊢
  clear h
  obtain ⟨q, hq⟩ : ∃ q, q = m - 4 := ⟨_, rfl⟩
  obtain ⟨ad, hA, l0, c0⟩ := hb.at_ (k := q) (by omega)
  obtain ⟨ad1, hA1, l1, c1⟩ := hb.at_ (k := q + 1) (by omega)
  obtain ⟨ad2, hA2, l2, c2⟩ := hb.at_ (k := q + 2) (by omega)
  obtain ⟨ad3, hA3, l3, c3⟩ := hb.at_ (k := q + 3) (by omega)
  subst hA
  injection hA1 with hA1
  injection hA2 with hA2
  injection hA3 with hA3
  subst hA1 hA2 hA3
  have hch : childN d = ((d.getD q 0 * 256 + d.getD (q + 1) 0) * 256 + d.getD (q + 2) 0) * 256 + d.getD (q + 3) 0 := by
    unfold childN
    rw [hlen, ← hq]
    have e : d.drop q = [d.getD q 0, d.getD (q + 1) 0, d.getD (q + 2) 0, d.getD (q + 3) 0] := by
      rw [List.drop_eq_getElem_cons (by omega), List.drop_eq_getElem_cons (by omega), List.drop_eq_getElem_cons (by omega), List.drop_eq_getElem_cons (by omega), List.drop_of_length_le (by omega)]
      simp [List.getD, show q < d.length by omega, show q + 1 < d.length by omega, show q + 2 < d.length by omega, show q + 3 < d.length by omega]
    rw [e]
    simp
  obtain ⟨b0, hb0⟩ : ∃ b, b = d.getD q 0 := ⟨_, rfl⟩
  obtain ⟨b1, hb1⟩ : ∃ b, b = d.getD (q + 1) 0 := ⟨_, rfl⟩
  obtain ⟨b2, hb2⟩ : ∃ b, b = d.getD (q + 2) 0 := ⟨_, rfl⟩
  obtain ⟨b3, hb3⟩ : ∃ b, b = d.getD (q + 3) 0 := ⟨_, rfl⟩
  rw [← hb0] at l0 c0
  rw [← hb1] at l1 c1
  rw [← hb2] at l2 c2
  rw [← hb3] at l3 c3
  rw [← hb0, ← hb1, ← hb2, ← hb3] at hch
  rw [hch]
  have i1 : (m : Int) - 4 = (q : Int) := by omega
  have i2 : (m : Int) - 3 = ((q + 1 : Nat) : Int) := by omega
  have i3 : (m : Int) - 2 = ((q + 2 : Nat) : Int) := by omega
  have i4 : (m : Int) - 1 = ((q + 3 : Nat) : Int) := by omega
  have w1 : IntKind.i64.wrap (q : Int) = (q : Int) := IntWalk.i64_in _ (by omega)
  have w2 : IntKind.i64.wrap ((q + 1 : Nat) : Int) = ((q + 1 : Nat) : Int) := IntWalk.i64_in _ (by omega)
  have w3 : IntKind.i64.wrap ((q + 2 : Nat) : Int) = ((q + 2 : Nat) : Int) := IntWalk.i64_in _ (by omega)
  have w4 : IntKind.i64.wrap ((q + 3 : Nat) : Int) = ((q + 3 : Nat) : Int) := IntWalk.i64_in _ (by omega)
  have x0 : IntKind.u32.wrap ((b0 : Int) * 16777216) = ((b0 * 16777216 : Nat) : Int) := by rw [IntKind.wrap_u32]; omega
  have x1 : IntKind.u32.wrap ((b1 : Int) * 65536) = ((b1 * 65536 : Nat) : Int) := by rw [IntKind.wrap_u32]; omega
  have x2 : IntKind.u32.wrap ((b2 : Int) * 256) = ((b2 * 256 : Nat) : Int) := by rw [IntKind.wrap_u32]; omega
  have v1 : IntKind.i64.wrap ((m : Int) - 4) = (q : Int) := by rw [i1, w1]
  have v2 : IntKind.i64.wrap ((m : Int) - 3) = ((q + 1 : Nat) : Int) := by rw [i2, w2]
  have v3 : IntKind.i64.wrap ((m : Int) - 2) = ((q + 2 : Nat) : Int) := by rw [i3, w3]
  have v4 : IntKind.i64.wrap ((m : Int) - 1) = ((q + 3 : Nat) : Int) := by rw [i4, w4]
  have hqm : q + 3 < m := by omega
  have g0 : q < m := by omega
  have g1 : q + 1 < m := by omega
  have g2 : q + 2 < m := by omega
  clear i1 i2 i3 i4 w1 w2 w3 w4
  obtain ⟨q1, e1⟩ : ∃ k, k = q + 1 := ⟨_, rfl⟩
  obtain ⟨q2, e2⟩ : ∃ k, k = q + 2 := ⟨_, rfl⟩
  obtain ⟨q3, e3⟩ : ∃ k, k = q + 3 := ⟨_, rfl⟩
  rw [← e1] at c1 v2 g1 hb1
  rw [← e2] at c2 v3 g2 hb2
  rw [← e3] at c3 v4 hqm hb3
  clear e1 e2 e3
  clear hch hb hq hb0 hb1 hb2 hb3 hlen hk
  go_enter Try.func50, Try.ntmps50
  go_wp2_with fail
  go_quiet (fail)
  go_wp2_with fail
  go_ret
  have hsum : ((((b0 * 256 + b1) * 256 + b2) * 256 + b3 : Nat) : Int) = (b0 : Int) * 16777216 + (b1 : Int) * 65536 + (b2 : Int) * 256 + (b3 : Int) := by omega
  exact ⟨by rw [hsum]; rfl, (((Fr.refl w No).alloc _).drewN nq).no_below⟩
theorem isE_eq (x : List Nat) : isE x = (decide (1 ≤ x.length) && decide (x.length ≤ 146)) := rfl
end Go.Proofs.Ytcajidlekfkjlaa
namespace Go.Proofs.Ytcajidlekfkjlaa
open Go.RowKit

/-- what the document tells of a tree's page -/
def pgP (t : TV) (n : Nat) : PV := match askM (some t) n with | .ok p => p | .error _ => PV.zero
def pgC (t : TV) (n : Nat) : Int := match askM (some t) n with | .ok _ => 0 | .error c => c
def pzs : Array Value := #[.int .i64 0, .int .u64 0, .int .u32 0, .slice none 0 0]
theorem pg_ok {t : TV} {n : Nat} {p : PV} (h : askM (some t) n = .ok p) : pgP t n = p ∧ pgC t n = 0 := by unfold pgP pgC; rw [h]; exact ⟨rfl, rfl⟩
theorem pg_no {t : TV} {n : Nat} {c : Int} (h : askM (some t) n = .error c) : pgP t n = PV.zero ∧ pgC t n = c := by unfold pgP pgC; rw [h]; exact ⟨rfl, rfl⟩
theorem page_bl0 {w w4 : World} {oa ob : Obj} (hf : Fr ((w.alloc oa).alloc ob) w4 (fun b => b = w.heap.size + 1)) : Below w.heap.size w w4 :=
  (((Below.refl w.heap.size w).alloc (Nat.le_refl _) oa).alloc (by simp) ob).trans (hf.below (fun b hb => by omega) (by simp; omega))
theorem page_bl {w w1 w4 : World} {oa ob oc : Obj} (hb : Below ((w.alloc oa).alloc ob).heap.size ((w.alloc oa).alloc ob) w1) (hf : Fr (w1.alloc oc) w4 (fun b => b = w.heap.size + 1)) : Below w.heap.size w w4 := by
  have h1 := (((Below.refl w.heap.size w).alloc (Nat.le_refl _) oa).alloc (by simp) ob).trans (hb.mono (by simp; omega))
  have h2 := h1.alloc h1.size oc
  exact h2.trans (hf.below (fun b hb => by omega) h2.size)
theorem page_bl2 {w w1 w2 w4 : World} {oa ob oc : Obj} (hb : Below ((w.alloc oa).alloc ob).heap.size ((w.alloc oa).alloc ob) w1) (hb2 : Below (w1.alloc oc).heap.size (w1.alloc oc) w2) (hf : Fr w2 w4 (fun b => b = w.heap.size + 1)) : Below w.heap.size w w4 := by
  have h1 := (((Below.refl w.heap.size w).alloc (Nat.le_refl _) oa).alloc (by simp) ob).trans (hb.mono (by simp; omega))
  have h2 := (h1.alloc h1.size oc).trans (hb2.mono (by have := h1.size; simp; omega))
  exact h2.trans (hf.below (fun b hb => by omega) h2.size)
theorem not_true : (Value.bool (!true)) = .bool false := rfl
set_option maxHeartbeats 2000000 in
set_option maxRecDepth 100000 in
theorem rpage_zero (t : TV) (w : World) : Calls Try.prog 32 #[t.agg, .int .u32 0] w fun e w' => e = .returned (.tuple #[PV.zero.agg, .int .i64 5]) ∧ Below w.heap.size w w' := by
  unfold TV.agg
  go_enter Try.func32, Try.ntmps32
  have blk : Blk ((w.alloc (.cells #[.slice t.A t.n t.c, .int .u32 (t.bad : Int), .int .i64 t.err] 26)).alloc (.cells #[.int .i64 0, .int .u64 0, .int .u32 0, .slice none 0 0] 51)) (w.heap.size + 1) 51 #[.int .i64 0, .int .u64 0, .int .u32 0, .slice none 0 0] := by
    have := Blk.new (w.alloc (.cells #[.slice t.A t.n t.c, .int .u32 (t.bad : Int), .int .i64 t.err] 26)) 51 #[.int .i64 0, .int .u64 0, .int .u32 0, .slice none 0 0]
    rwa [World.size_alloc] at this
  have HK := Lib.hid blk
  clear blk
  go_wp2_with (refine wpList_stB rfl 51 (.tmp 4) (.tmp 10) rfl (w.heap.size + 1) #[.int .i64 0, .int .u64 0, .int .u32 0, .slice none 0 0] rfl rfl 51 #[.int .i64 0, .int .u64 0, .int .u32 0, .slice none 0 0] HK.out size62 rfl rfl ?_; intro w4 hz4 hf4; have HZ4 := Lib.hid hz4; have HF4 := Lib.hid hf4; clear hz4 hf4)
  have c0 := HZ4.out.cell 0
  have c1 := HZ4.out.cell 1
  have c2 := HZ4.out.cell 2
  have c3 := HZ4.out.cell 3
  simp only [List.getElem?_toArray, List.getElem?_cons_zero, List.getElem?_cons_succ] at c0 c1 c2 c3
  exact bodyPost_ret (v := .tuple #[PV.zero.agg, .int .i64 5]) (by simp [results, Try.results32, go_sem, PV.zero, PV.agg, c0, c1, c2, c3]) rfl ⟨rfl, page_bl0 HF4.out⟩
set_option maxHeartbeats 2000000 in
set_option maxRecDepth 100000 in
theorem rpage_err (t : TV) (n : Nat) (hn : n ≠ 0) (w : World) {S : Nat → Prop} (h : t.In w S) (hc : (t.get n).2 ≠ 0) : Calls Try.prog 32 #[t.agg, .int .u32 (n : Int)] w fun e w' => e = .returned (.tuple #[PV.zero.agg, .int .i64 (t.get n).2]) ∧ Below w.heap.size w w' := by
  have HG := Lib.hid (fun (W : World) (hW : Below w.heap.size w W) => get_any t n W S (h.below hW))
  obtain ⟨p, hp⟩ : ∃ p, p = (t.get n).1 := ⟨_, rfl⟩
  obtain ⟨c, hcc⟩ : ∃ c, c = (t.get n).2 := ⟨_, rfl⟩
  rw [← hp, ← hcc] at HG
  rw [← hcc] at hc ⊢
  have d1 : ((n : Int) == 0) = false := beq_false_of_ne (by omega)
  have d2 : (c != 0) = true := bne_iff_ne.2 hc
  unfold TV.agg at HG ⊢
  unfold PV.agg at HG
  clear hp hcc hc h
  go_enter Try.func32, Try.ntmps32
  go_wp2_with fail
  refine (HG.out _ (((Below.refl _ _).alloc (Nat.le_refl _) _).alloc (by simp) _)).mono ?_
  rintro e w1 ⟨rfl, hb1⟩
  have HB1 := Lib.hid hb1
  have blk : Blk w1 (w.heap.size + 1) 51 #[.int .i64 0, .int .u64 0, .int .u32 0, .slice none 0 0] := by
    have := (Blk.new (w.alloc (.cells #[.slice t.A t.n t.c, .int .u32 (t.bad : Int), .int .i64 t.err] 26)) 51 #[.int .i64 0, .int .u64 0, .int .u32 0, .slice none 0 0]).below hb1 (by simp)
    rwa [World.size_alloc] at this
  have blk2 := blk.alloc (.cells #[.int .i64 p.k, .int .u64 (p.s : Int), .int .u32 (p.x : Int), .slice p.A p.n p.c] 51)
  have HK := Lib.hid blk2
  clear hb1 blk blk2
  go_wp2_with (refine wpList_stB rfl 51 (.tmp 4) (.tmp 19) rfl (w.heap.size + 1) #[.int .i64 0, .int .u64 0, .int .u32 0, .slice none 0 0] rfl rfl 51 #[.int .i64 0, .int .u64 0, .int .u32 0, .slice none 0 0] HK.out size62 rfl rfl ?_; intro w4 hz4 hf4; have HZ4 := Lib.hid hz4; have HF4 := Lib.hid hf4; clear hz4 hf4)
  have c0 := HZ4.out.cell 0
  have c1 := HZ4.out.cell 1
  have c2 := HZ4.out.cell 2
  have c3 := HZ4.out.cell 3
  simp only [List.getElem?_toArray, List.getElem?_cons_zero, List.getElem?_cons_succ] at c0 c1 c2 c3
  exact bodyPost_ret (v := .tuple #[PV.zero.agg, .int .i64 c]) (by simp [results, Try.results32, go_sem, PV.zero, PV.agg, c0, c1, c2, c3]) rfl ⟨rfl, page_bl HB1.out HF4.out⟩
set_option maxHeartbeats 2000000 in
set_option maxRecDepth 100000 in
theorem rpage_not (t : TV) (n : Nat) (hn : n ≠ 0) (w : World) {S : Nat → Prop} (h : t.In w S) (hc : (t.get n).2 = 0) (hf : Few (t.get n).1) (ho : may (t.get n).1.k (t.get n).1.es = false) :
    Calls Try.prog 32 #[t.agg, .int .u32 (n : Int)] w fun e w' => e = .returned (.tuple #[PV.zero.agg, .int .i64 5]) ∧ Below w.heap.size w w' := by
  have HG := Lib.hid (fun (W : World) (hW : Below w.heap.size w W) => get_any t n W S (h.below hW))
  obtain ⟨p, hp⟩ : ∃ p, p = (t.get n).1 := ⟨_, rfl⟩
  have hpi : p.In w S S := hp ▸ TV.get_in h n
  rw [hc, ← hp] at HG
  rw [← hp] at ho hf
  have HO := ho
  have HM := Lib.hid (fun (W : World) (hW : Below w.heap.size w W) => rmay_any p W (hpi.below hW).all hf)
  rw [HO] at HM
  have d1 : ((n : Int) == 0) = false := beq_false_of_ne (by omega)
  have hcr := hpi.r.2.2.1
  obtain ⟨k, s, x, A, m, cc, l⟩ := p
  unfold TV.agg at HG ⊢
  unfold PV.agg at HG HM
  clear hn hp hc h hpi hf
  clear hcr
  go_enter Try.func32, Try.ntmps32
  go_wp2_with fail
  refine (HG.out _ (((Below.refl _ _).alloc (Nat.le_refl _) _).alloc (by simp) _)).mono ?_
  rintro e w1 ⟨rfl, hb1⟩
  have HB1 := Lib.hid hb1
  have blk : Blk w1 (w.heap.size + 1) 51 #[.int .i64 0, .int .u64 0, .int .u32 0, .slice none 0 0] := by
    have := (Blk.new (w.alloc (.cells #[.slice t.A t.n t.c, .int .u32 (t.bad : Int), .int .i64 t.err] 26)) 51 #[.int .i64 0, .int .u64 0, .int .u32 0, .slice none 0 0]).below hb1 (by simp)
    rwa [World.size_alloc] at this
  have blk2 := blk.alloc (.cells #[.int .i64 k, .int .u64 (s : Int), .int .u32 (x : Int), .slice A m cc] 51)
  have blp := Blk.new w1 51 #[.int .i64 k, .int .u64 (s : Int), .int .u32 (x : Int), .slice A m cc]
  have hbw : Below w.heap.size w (w1.alloc (.cells #[.int .i64 k, .int .u64 (s : Int), .int .u32 (x : Int), .slice A m cc] 51)) := by
    have h1 := (((Below.refl w.heap.size w).alloc (Nat.le_refl _) (.cells #[.slice t.A t.n t.c, .int .u32 (t.bad : Int), .int .i64 t.err] 26)).alloc (by simp) (.cells #[.int .i64 0, .int .u64 0, .int .u32 0, .slice none 0 0] 51)).trans (hb1.mono (by simp; omega))
    exact h1.alloc h1.size _
  have HBW := Lib.hid hbw
  have HK2 := Lib.hid blk2
  have HP2 := Lib.hid blp
  clear hb1 blk blk2 blp hbw
  go_wp2_with fail
  refine (HM.out _ HBW.out).mono ?_
  rintro e w2 ⟨rfl, hb2⟩
  have HB2 := Lib.hid hb2
  have HK := Lib.hid (HK2.out.below hb2 HK2.out.lt)
  have hp2 := HP2.out.below hb2 HP2.out.lt
  have p0 := hp2.cell 0
  have p1 := hp2.cell 1
  have p2 := hp2.cell 2
  have p3 := hp2.cell 3
  simp only [List.getElem?_toArray, List.getElem?_cons_zero, List.getElem?_cons_succ] at p0 p1 p2 p3
  clear hb2 hp2
  clear ho HO
  go_upto_region 7 with fail
  go_wp2_with (refine wpList_stB rfl 51 (.tmp 4) (.tmp 40) rfl (w.heap.size + 1) #[.int .i64 0, .int .u64 0, .int .u32 0, .slice none 0 0] rfl rfl 51 #[.int .i64 0, .int .u64 0, .int .u32 0, .slice none 0 0] HK.out size62 rfl rfl ?_; intro w4 hz4 hf4; have HZ4 := Lib.hid hz4; have HF4 := Lib.hid hf4; clear hz4 hf4)
  have c0 := HZ4.out.cell 0
  have c1 := HZ4.out.cell 1
  have c2 := HZ4.out.cell 2
  have c3 := HZ4.out.cell 3
  simp only [List.getElem?_toArray, List.getElem?_cons_zero, List.getElem?_cons_succ] at c0 c1 c2 c3
  exact bodyPost_ret (v := .tuple #[PV.zero.agg, .int .i64 5]) (by simp [results, Try.results32, go_sem, PV.zero, PV.agg, c0, c1, c2, c3]) rfl ⟨rfl, page_bl2 HB1.out HB2.out HF4.out⟩
set_option maxHeartbeats 2000000 in
set_option maxRecDepth 100000 in
theorem rpage_heap (t : TV) (n : Nat) (hn : n ≠ 0) (w : World) {S : Nat → Prop} (h : t.In w S) (hc : (t.get n).2 = 0) (hf : Few (t.get n).1) (ho : may (t.get n).1.k (t.get n).1.es = true) (h1 : (t.get n).1.k = 1) :
    Calls Try.prog 32 #[t.agg, .int .u32 (n : Int)] w fun e w' => e = .returned (.tuple #[PV.zero.agg, .int .i64 5]) ∧ Below w.heap.size w w' := by
  have HG := Lib.hid (fun (W : World) (hW : Below w.heap.size w W) => get_any t n W S (h.below hW))
  obtain ⟨p, hp⟩ : ∃ p, p = (t.get n).1 := ⟨_, rfl⟩
  have hpi : p.In w S S := hp ▸ TV.get_in h n
  rw [hc, ← hp] at HG
  rw [← hp] at ho hf
  have HO := ho; rw [← hp] at h1
  have HM := Lib.hid (fun (W : World) (hW : Below w.heap.size w W) => rmay_any p W (hpi.below hW).all hf)
  rw [HO] at HM
  have d1 : ((n : Int) == 0) = false := beq_false_of_ne (by omega)
  have hcr := hpi.r.2.2.1
  obtain ⟨k, s, x, A, m, cc, l⟩ := p
  unfold TV.agg at HG ⊢
  unfold PV.agg at HG HM
  clear hn hp hc h hpi hf
  dsimp only at hcr h1
  have d3 : (k == 1) = true := by rw [h1]; rfl
  clear h1 hcr
  go_enter Try.func32, Try.ntmps32
  go_wp2_with fail
  refine (HG.out _ (((Below.refl _ _).alloc (Nat.le_refl _) _).alloc (by simp) _)).mono ?_
  rintro e w1 ⟨rfl, hb1⟩
  have HB1 := Lib.hid hb1
  have blk : Blk w1 (w.heap.size + 1) 51 #[.int .i64 0, .int .u64 0, .int .u32 0, .slice none 0 0] := by
    have := (Blk.new (w.alloc (.cells #[.slice t.A t.n t.c, .int .u32 (t.bad : Int), .int .i64 t.err] 26)) 51 #[.int .i64 0, .int .u64 0, .int .u32 0, .slice none 0 0]).below hb1 (by simp)
    rwa [World.size_alloc] at this
  have blk2 := blk.alloc (.cells #[.int .i64 k, .int .u64 (s : Int), .int .u32 (x : Int), .slice A m cc] 51)
  have blp := Blk.new w1 51 #[.int .i64 k, .int .u64 (s : Int), .int .u32 (x : Int), .slice A m cc]
  have hbw : Below w.heap.size w (w1.alloc (.cells #[.int .i64 k, .int .u64 (s : Int), .int .u32 (x : Int), .slice A m cc] 51)) := by
    have h1 := (((Below.refl w.heap.size w).alloc (Nat.le_refl _) (.cells #[.slice t.A t.n t.c, .int .u32 (t.bad : Int), .int .i64 t.err] 26)).alloc (by simp) (.cells #[.int .i64 0, .int .u64 0, .int .u32 0, .slice none 0 0] 51)).trans (hb1.mono (by simp; omega))
    exact h1.alloc h1.size _
  have HBW := Lib.hid hbw
  have HK2 := Lib.hid blk2
  have HP2 := Lib.hid blp
  clear hb1 blk blk2 blp hbw
  go_wp2_with fail
  refine (HM.out _ HBW.out).mono ?_
  rintro e w2 ⟨rfl, hb2⟩
  have HB2 := Lib.hid hb2
  have HK := Lib.hid (HK2.out.below hb2 HK2.out.lt)
  have hp2 := HP2.out.below hb2 HP2.out.lt
  have p0 := hp2.cell 0
  have p1 := hp2.cell 1
  have p2 := hp2.cell 2
  have p3 := hp2.cell 3
  simp only [List.getElem?_toArray, List.getElem?_cons_zero, List.getElem?_cons_succ] at p0 p1 p2 p3
  clear hb2 hp2
  clear ho HO
  go_upto_region 7 with fail
  go_wp2_with (refine wpList_stB rfl 51 (.tmp 4) (.tmp 40) rfl (w.heap.size + 1) #[.int .i64 0, .int .u64 0, .int .u32 0, .slice none 0 0] rfl rfl 51 #[.int .i64 0, .int .u64 0, .int .u32 0, .slice none 0 0] HK.out size62 rfl rfl ?_; intro w4 hz4 hf4; have HZ4 := Lib.hid hz4; have HF4 := Lib.hid hf4; clear hz4 hf4)
  have c0 := HZ4.out.cell 0
  have c1 := HZ4.out.cell 1
  have c2 := HZ4.out.cell 2
  have c3 := HZ4.out.cell 3
  simp only [List.getElem?_toArray, List.getElem?_cons_zero, List.getElem?_cons_succ] at c0 c1 c2 c3
  exact bodyPost_ret (v := .tuple #[PV.zero.agg, .int .i64 5]) (by simp [results, Try.results32, go_sem, PV.zero, PV.agg, c0, c1, c2, c3]) rfl ⟨rfl, page_bl2 HB1.out HB2.out HF4.out⟩
set_option maxHeartbeats 2000000 in
set_option maxRecDepth 100000 in
theorem rpage_empty (t : TV) (n : Nat) (hn : n ≠ 0) (w : World) {S : Nat → Prop} (h : t.In w S) (hc : (t.get n).2 = 0) (hf : Few (t.get n).1) (ho : may (t.get n).1.k (t.get n).1.es = true) (h3 : (t.get n).1.k = 3) (h0 : (t.get n).1.n = 0) :
    Calls Try.prog 32 #[t.agg, .int .u32 (n : Int)] w fun e w' => e = .returned (.tuple #[PV.zero.agg, .int .i64 5]) ∧ Below w.heap.size w w' := by
  have HG := Lib.hid (fun (W : World) (hW : Below w.heap.size w W) => get_any t n W S (h.below hW))
  obtain ⟨p, hp⟩ : ∃ p, p = (t.get n).1 := ⟨_, rfl⟩
  have hpi : p.In w S S := hp ▸ TV.get_in h n
  rw [hc, ← hp] at HG
  rw [← hp] at ho hf
  have HO := ho; rw [← hp] at h3 h0
  have HM := Lib.hid (fun (W : World) (hW : Below w.heap.size w W) => rmay_any p W (hpi.below hW).all hf)
  rw [HO] at HM
  have d1 : ((n : Int) == 0) = false := beq_false_of_ne (by omega)
  have hcr := hpi.r.2.2.1
  obtain ⟨k, s, x, A, m, cc, l⟩ := p
  unfold TV.agg at HG ⊢
  unfold PV.agg at HG HM
  clear hn hp hc h hpi hf
  dsimp only at hcr h3 h0
  have d3 : (k == 1) = false := by rw [h3]; rfl
  have d4 : (k == 3) = true := by rw [h3]; rfl
  have d5 : ((m : Int) == 0) = true := by rw [h0]; rfl
  clear h3 h0
  go_enter Try.func32, Try.ntmps32
  go_wp2_with fail
  refine (HG.out _ (((Below.refl _ _).alloc (Nat.le_refl _) _).alloc (by simp) _)).mono ?_
  rintro e w1 ⟨rfl, hb1⟩
  have HB1 := Lib.hid hb1
  have blk : Blk w1 (w.heap.size + 1) 51 #[.int .i64 0, .int .u64 0, .int .u32 0, .slice none 0 0] := by
    have := (Blk.new (w.alloc (.cells #[.slice t.A t.n t.c, .int .u32 (t.bad : Int), .int .i64 t.err] 26)) 51 #[.int .i64 0, .int .u64 0, .int .u32 0, .slice none 0 0]).below hb1 (by simp)
    rwa [World.size_alloc] at this
  have blk2 := blk.alloc (.cells #[.int .i64 k, .int .u64 (s : Int), .int .u32 (x : Int), .slice A m cc] 51)
  have blp := Blk.new w1 51 #[.int .i64 k, .int .u64 (s : Int), .int .u32 (x : Int), .slice A m cc]
  have hbw : Below w.heap.size w (w1.alloc (.cells #[.int .i64 k, .int .u64 (s : Int), .int .u32 (x : Int), .slice A m cc] 51)) := by
    have h1 := (((Below.refl w.heap.size w).alloc (Nat.le_refl _) (.cells #[.slice t.A t.n t.c, .int .u32 (t.bad : Int), .int .i64 t.err] 26)).alloc (by simp) (.cells #[.int .i64 0, .int .u64 0, .int .u32 0, .slice none 0 0] 51)).trans (hb1.mono (by simp; omega))
    exact h1.alloc h1.size _
  have HBW := Lib.hid hbw
  have HK2 := Lib.hid blk2
  have HP2 := Lib.hid blp
  clear hb1 blk blk2 blp hbw
  go_wp2_with fail
  refine (HM.out _ HBW.out).mono ?_
  rintro e w2 ⟨rfl, hb2⟩
  have HB2 := Lib.hid hb2
  have HK := Lib.hid (HK2.out.below hb2 HK2.out.lt)
  have hp2 := HP2.out.below hb2 HP2.out.lt
  have p0 := hp2.cell 0
  have p1 := hp2.cell 1
  have p2 := hp2.cell 2
  have p3 := hp2.cell 3
  simp only [List.getElem?_toArray, List.getElem?_cons_zero, List.getElem?_cons_succ] at p0 p1 p2 p3
  clear hb2 hp2
  clear ho HO
  go_upto_region 7 with fail
  go_wp2_with (refine wpList_stB rfl 51 (.tmp 4) (.tmp 40) rfl (w.heap.size + 1) #[.int .i64 0, .int .u64 0, .int .u32 0, .slice none 0 0] rfl rfl 51 #[.int .i64 0, .int .u64 0, .int .u32 0, .slice none 0 0] HK.out size62 rfl rfl ?_; intro w4 hz4 hf4; have HZ4 := Lib.hid hz4; have HF4 := Lib.hid hf4; clear hz4 hf4)
  have c0 := HZ4.out.cell 0
  have c1 := HZ4.out.cell 1
  have c2 := HZ4.out.cell 2
  have c3 := HZ4.out.cell 3
  simp only [List.getElem?_toArray, List.getElem?_cons_zero, List.getElem?_cons_succ] at c0 c1 c2 c3
  exact bodyPost_ret (v := .tuple #[PV.zero.agg, .int .i64 5]) (by simp [results, Try.results32, go_sem, PV.zero, PV.agg, c0, c1, c2, c3]) rfl ⟨rfl, page_bl2 HB1.out HB2.out HF4.out⟩
set_option maxHeartbeats 2000000 in
set_option maxRecDepth 100000 in
theorem rpage_leaf (t : TV) (n : Nat) (hn : n ≠ 0) (w : World) {S : Nat → Prop} (h : t.In w S) (hc : (t.get n).2 = 0) (hf : Few (t.get n).1) (ho : may (t.get n).1.k (t.get n).1.es = true) (h2 : (t.get n).1.k = 2) :
    Calls Try.prog 32 #[t.agg, .int .u32 (n : Int)] w fun e w' => e = .returned (.tuple #[(t.get n).1.agg, .int .i64 0]) ∧ Below w.heap.size w w' := by
  have HG := Lib.hid (fun (W : World) (hW : Below w.heap.size w W) => get_any t n W S (h.below hW))
  obtain ⟨p, hp⟩ : ∃ p, p = (t.get n).1 := ⟨_, rfl⟩
  have hpi : p.In w S S := hp ▸ TV.get_in h n
  rw [hc, ← hp] at HG
  rw [← hp] at ho hf
  have HO := ho; rw [← hp] at h2; rw [← hp]
  have HM := Lib.hid (fun (W : World) (hW : Below w.heap.size w W) => rmay_any p W (hpi.below hW).all hf)
  rw [HO] at HM
  have d1 : ((n : Int) == 0) = false := beq_false_of_ne (by omega)
  have hcr := hpi.r.2.2.1
  obtain ⟨k, s, x, A, m, cc, l⟩ := p
  unfold TV.agg at HG ⊢
  unfold PV.agg
  unfold PV.agg at HG HM
  clear hn hp hc h hpi hf
  dsimp only at hcr h2
  have d3 : (k == 1) = false := by rw [h2]; rfl
  have d4 : (k == 3) = false := by rw [h2]; rfl
  clear h2 hcr
  go_enter Try.func32, Try.ntmps32
  go_wp2_with fail
  refine (HG.out _ (((Below.refl _ _).alloc (Nat.le_refl _) _).alloc (by simp) _)).mono ?_
  rintro e w1 ⟨rfl, hb1⟩
  have HB1 := Lib.hid hb1
  have blk : Blk w1 (w.heap.size + 1) 51 #[.int .i64 0, .int .u64 0, .int .u32 0, .slice none 0 0] := by
    have := (Blk.new (w.alloc (.cells #[.slice t.A t.n t.c, .int .u32 (t.bad : Int), .int .i64 t.err] 26)) 51 #[.int .i64 0, .int .u64 0, .int .u32 0, .slice none 0 0]).below hb1 (by simp)
    rwa [World.size_alloc] at this
  have blk2 := blk.alloc (.cells #[.int .i64 k, .int .u64 (s : Int), .int .u32 (x : Int), .slice A m cc] 51)
  have blp := Blk.new w1 51 #[.int .i64 k, .int .u64 (s : Int), .int .u32 (x : Int), .slice A m cc]
  have hbw : Below w.heap.size w (w1.alloc (.cells #[.int .i64 k, .int .u64 (s : Int), .int .u32 (x : Int), .slice A m cc] 51)) := by
    have h1 := (((Below.refl w.heap.size w).alloc (Nat.le_refl _) (.cells #[.slice t.A t.n t.c, .int .u32 (t.bad : Int), .int .i64 t.err] 26)).alloc (by simp) (.cells #[.int .i64 0, .int .u64 0, .int .u32 0, .slice none 0 0] 51)).trans (hb1.mono (by simp; omega))
    exact h1.alloc h1.size _
  have HBW := Lib.hid hbw
  have HK2 := Lib.hid blk2
  have HP2 := Lib.hid blp
  clear hb1 blk blk2 blp hbw
  go_wp2_with fail
  refine (HM.out _ HBW.out).mono ?_
  rintro e w2 ⟨rfl, hb2⟩
  have HB2 := Lib.hid hb2
  have HK := Lib.hid (HK2.out.below hb2 HK2.out.lt)
  have hp2 := HP2.out.below hb2 HP2.out.lt
  have p0 := hp2.cell 0
  have p1 := hp2.cell 1
  have p2 := hp2.cell 2
  have p3 := hp2.cell 3
  simp only [List.getElem?_toArray, List.getElem?_cons_zero, List.getElem?_cons_succ] at p0 p1 p2 p3
  clear hb2 hp2
  clear ho HO
  go_upto_region 8 with fail
  go_wp2_with (refine wpList_stB rfl 51 (.tmp 4) (.tmp 41) rfl (w.heap.size + 1) #[.int .i64 k, .int .u64 (s : Int), .int .u32 (x : Int), .slice A m cc] rfl rfl 51 #[.int .i64 0, .int .u64 0, .int .u32 0, .slice none 0 0] HK.out size62 rfl rfl ?_; intro w4 hz4 hf4; have HZ4 := Lib.hid hz4; have HF4 := Lib.hid hf4; clear hz4 hf4)
  have c0 := HZ4.out.cell 0
  have c1 := HZ4.out.cell 1
  have c2 := HZ4.out.cell 2
  have c3 := HZ4.out.cell 3
  simp only [List.getElem?_toArray, List.getElem?_cons_zero, List.getElem?_cons_succ] at c0 c1 c2 c3
  exact bodyPost_ret (v := .tuple #[.agg #[.int .i64 k, .int .u64 (s : Int), .int .u32 (x : Int), .slice A m cc], .int .i64 0]) (by simp [results, Try.results32, go_sem, c0, c1, c2, c3]) rfl ⟨rfl, page_bl2 HB1.out HB2.out HF4.out⟩
set_option maxHeartbeats 2000000 in
set_option maxRecDepth 100000 in
theorem rpage_inner (t : TV) (n : Nat) (hn : n ≠ 0) (w : World) {S : Nat → Prop} (h : t.In w S) (hc : (t.get n).2 = 0) (hf : Few (t.get n).1) (ho : may (t.get n).1.k (t.get n).1.es = true) (h3 : (t.get n).1.k = 3) (h0 : 0 < (t.get n).1.n) :
    Calls Try.prog 32 #[t.agg, .int .u32 (n : Int)] w fun e w' => e = .returned (.tuple #[(t.get n).1.agg, .int .i64 0]) ∧ Below w.heap.size w w' := by
  have HG := Lib.hid (fun (W : World) (hW : Below w.heap.size w W) => get_any t n W S (h.below hW))
  obtain ⟨p, hp⟩ : ∃ p, p = (t.get n).1 := ⟨_, rfl⟩
  have hpi : p.In w S S := hp ▸ TV.get_in h n
  rw [hc, ← hp] at HG
  rw [← hp] at ho hf
  have HO := ho; rw [← hp] at h3 h0; rw [← hp]
  have HM := Lib.hid (fun (W : World) (hW : Below w.heap.size w W) => rmay_any p W (hpi.below hW).all hf)
  rw [HO] at HM
  have d1 : ((n : Int) == 0) = false := beq_false_of_ne (by omega)
  have hcr := hpi.r.2.2.1
  obtain ⟨k, s, x, A, m, cc, l⟩ := p
  unfold TV.agg at HG ⊢
  unfold PV.agg
  unfold PV.agg at HG HM
  clear hn hp hc h hpi hf
  dsimp only at hcr h3 h0
  have d3 : (k == 1) = false := by rw [h3]; rfl
  have d4 : (k == 3) = true := by rw [h3]; rfl
  have d5 : ((m : Int) == 0) = false := beq_false_of_ne (by omega)
  clear h3 h0
  go_enter Try.func32, Try.ntmps32
  go_wp2_with fail
  refine (HG.out _ (((Below.refl _ _).alloc (Nat.le_refl _) _).alloc (by simp) _)).mono ?_
  rintro e w1 ⟨rfl, hb1⟩
  have HB1 := Lib.hid hb1
  have blk : Blk w1 (w.heap.size + 1) 51 #[.int .i64 0, .int .u64 0, .int .u32 0, .slice none 0 0] := by
    have := (Blk.new (w.alloc (.cells #[.slice t.A t.n t.c, .int .u32 (t.bad : Int), .int .i64 t.err] 26)) 51 #[.int .i64 0, .int .u64 0, .int .u32 0, .slice none 0 0]).below hb1 (by simp)
    rwa [World.size_alloc] at this
  have blk2 := blk.alloc (.cells #[.int .i64 k, .int .u64 (s : Int), .int .u32 (x : Int), .slice A m cc] 51)
  have blp := Blk.new w1 51 #[.int .i64 k, .int .u64 (s : Int), .int .u32 (x : Int), .slice A m cc]
  have hbw : Below w.heap.size w (w1.alloc (.cells #[.int .i64 k, .int .u64 (s : Int), .int .u32 (x : Int), .slice A m cc] 51)) := by
    have h1 := (((Below.refl w.heap.size w).alloc (Nat.le_refl _) (.cells #[.slice t.A t.n t.c, .int .u32 (t.bad : Int), .int .i64 t.err] 26)).alloc (by simp) (.cells #[.int .i64 0, .int .u64 0, .int .u32 0, .slice none 0 0] 51)).trans (hb1.mono (by simp; omega))
    exact h1.alloc h1.size _
  have HBW := Lib.hid hbw
  have HK2 := Lib.hid blk2
  have HP2 := Lib.hid blp
  clear hb1 blk blk2 blp hbw
  go_wp2_with fail
  refine (HM.out _ HBW.out).mono ?_
  rintro e w2 ⟨rfl, hb2⟩
  have HB2 := Lib.hid hb2
  have HK := Lib.hid (HK2.out.below hb2 HK2.out.lt)
  have hp2 := HP2.out.below hb2 HP2.out.lt
  have p0 := hp2.cell 0
  have p1 := hp2.cell 1
  have p2 := hp2.cell 2
  have p3 := hp2.cell 3
  simp only [List.getElem?_toArray, List.getElem?_cons_zero, List.getElem?_cons_succ] at p0 p1 p2 p3
  clear hb2 hp2
  clear ho HO
  go_upto_region 8 with fail
  go_wp2_with (refine wpList_stB rfl 51 (.tmp 4) (.tmp 41) rfl (w.heap.size + 1) #[.int .i64 k, .int .u64 (s : Int), .int .u32 (x : Int), .slice A m cc] rfl rfl 51 #[.int .i64 0, .int .u64 0, .int .u32 0, .slice none 0 0] HK.out size62 rfl rfl ?_; intro w4 hz4 hf4; have HZ4 := Lib.hid hz4; have HF4 := Lib.hid hf4; clear hz4 hf4)
  have c0 := HZ4.out.cell 0
  have c1 := HZ4.out.cell 1
  have c2 := HZ4.out.cell 2
  have c3 := HZ4.out.cell 3
  simp only [List.getElem?_toArray, List.getElem?_cons_zero, List.getElem?_cons_succ] at c0 c1 c2 c3
  exact bodyPost_ret (v := .tuple #[.agg #[.int .i64 k, .int .u64 (s : Int), .int .u32 (x : Int), .slice A m cc], .int .i64 0]) (by simp [results, Try.results32, go_sem, c0, c1, c2, c3]) rfl ⟨rfl, page_bl2 HB1.out HB2.out HF4.out⟩
theorem ask_yes {t : TV} {n : Nat} (hn : n ≠ 0) (hc : (t.get n).2 = 0) (ho : okP (t.get n).1 = true) : askM (some t) n = .ok (t.get n).1 := by
  unfold askM; rw [if_neg hn]; simp [hc, ho]
theorem ask_nay {t : TV} {n : Nat} (hn : n ≠ 0) (hc : (t.get n).2 = 0) (ho : okP (t.get n).1 = false) : askM (some t) n = .error 5 := by
  unfold askM; rw [if_neg hn]; simp [hc, ho]
theorem okP_eq (p : PV) (hm : may p.k p.es = true) : okP p = (decide (p.k = 2) || (decide (p.k = 3) && decide (0 < p.n))) := by unfold okP; rw [hm, Bool.true_and]
set_option maxRecDepth 100000 in
theorem rpage_any (t : TV) (n : Nat) (w : World) {S : Nat → Prop} (h : t.In w S) (hf : ∀ x ∈ t.l, Few x.p) :
    Calls Try.prog 32 #[t.agg, .int .u32 (n : Int)] w fun e w' => e = .returned (.tuple #[(pgP t n).agg, .int .i64 (pgC t n)]) ∧ Below w.heap.size w w' := by
  by_cases hn : n = 0
  · subst hn
    obtain ⟨e1, e2⟩ := pg_no (t := t) (n := 0) (c := 5) (by unfold askM; rw [if_pos rfl])
    rw [e1, e2]
    exact rpage_zero t w
  have hfn := ask_few hf n
  by_cases hc : (t.get n).2 = 0
  · by_cases hm : may (t.get n).1.k (t.get n).1.es = true
    · by_cases hk2 : (t.get n).1.k = 2
      · obtain ⟨e1, e2⟩ := pg_ok (t := t) (n := n) (ask_yes hn hc (by rw [okP_eq _ hm, decide_eq_true hk2]; rfl))
        rw [e1, e2]
        exact rpage_leaf t n hn w h hc hfn hm hk2
      · by_cases hk3 : (t.get n).1.k = 3
        · by_cases h0 : (t.get n).1.n = 0
          · obtain ⟨e1, e2⟩ := pg_no (t := t) (n := n) (ask_nay hn hc (by rw [okP_eq _ hm, decide_eq_false hk2, decide_eq_false (by omega : ¬ 0 < (t.get n).1.n)]; simp))
            rw [e1, e2]
            exact rpage_empty t n hn w h hc hfn hm hk3 h0
          · obtain ⟨e1, e2⟩ := pg_ok (t := t) (n := n) (ask_yes hn hc (by rw [okP_eq _ hm, decide_eq_true hk3, decide_eq_true (by omega : 0 < (t.get n).1.n)]; simp))
            rw [e1, e2]
            exact rpage_inner t n hn w h hc hfn hm hk3 (by omega)
        · obtain ⟨e1, e2⟩ := pg_no (t := t) (n := n) (ask_nay hn hc (by rw [okP_eq _ hm, decide_eq_false hk2, decide_eq_false hk3]; rfl))
          rw [e1, e2]
          have hk1 : (t.get n).1.k = 1 := by
            have h := hm
            unfold may stand at h
            simp only [Bool.and_eq_true] at h
            by_cases h1 : (t.get n).1.k = 1
            · exact h1
            · exfalso
              have := h.2.2.2
              rw [if_neg h1, if_neg hk3, if_neg hk2] at this
              cases this
          exact rpage_heap t n hn w h hc hfn hm hk1
    · obtain ⟨e1, e2⟩ := pg_no (t := t) (n := n) (ask_nay hn hc (by unfold okP; rw [show may (t.get n).1.k (t.get n).1.es = false by simpa using hm, Bool.false_and]))
      rw [e1, e2]
      exact rpage_not t n hn w h hc hfn (by simpa using hm)
  · obtain ⟨e1, e2⟩ := pg_no (t := t) (n := n) (c := (t.get n).2) (by unfold askM; rw [if_neg hn]; simp [hc])
    rw [e1, e2]
    exact rpage_err t n hn w h hc
end Go.Proofs.Ytcajidlekfkjlaa
namespace Go.Proofs.Ytcajidlekfkjlaa
open Go.RowKit

/-- the document's child: of the last cell whose entry is not above the text -/
def kidN (x : List Nat) (n : Nat) (l : List CE) : Nat := l.foldl (fun a c => if ltb x (ent 4 c.d) then a else childN c.d) n
theorem kidN_snoc (x : List Nat) (n : Nat) (l : List CE) (c : CE) : kidN x n (l ++ [c]) = if ltb x (ent 4 c.d) then kidN x n l else childN c.d := by simp [kidN]
def upw (l : List CE) : Prop := l.Pairwise fun a b => ltb (ent 4 a.d) (ent 4 b.d) = true
theorem rise_upw {l : List CE} (h : rise 4 l = true) : upw l := by
  unfold upw
  rw [List.pairwise_iff_getElem]
  intro i j hi hj hij
  have := rise_lt h hij hj
  rwa [getD_lt hi, getD_lt hj] at this
theorem kidN_above (x : List Nat) (n : Nat) : ∀ l : List CE, (∀ c ∈ l, ltb x (ent 4 c.d) = true) → kidN x n l = n
  | [], _ => rfl
  | c :: r, h => by
    have ih := kidN_above x n r (fun c' hc' => h c' (by simp [hc']))
    unfold kidN at ih ⊢
    rw [List.foldl_cons, if_pos (h c (by simp))]
    exact ih
theorem childL_kid (x : List Nat) : ∀ (l : List CE) (n : Nat) (f : List Nat), upw l → (∀ c ∈ l, (ent 4 c.d).length ≠ 0) → ltb x f = false → childL x n f l = kidN x n l
  | [], _, _, _, _, _ => rfl
  | c :: r, n, f, hu, he, hf => by
    obtain ⟨h1, h2⟩ := List.pairwise_cons.1 hu
    unfold childL lies
    rw [hf, decide_eq_false (he c (by simp))]
    by_cases hx : ltb x (ent 4 c.d) = true
    · rw [hx]
      refine (if_pos rfl).trans ?_
      refine (kidN_above x n _ fun c' hc' => ?_).symm
      rcases List.mem_cons.1 hc' with rfl | hc'
      · exact hx
      · exact ltb_trans hx (h1 c' hc')
    · have hx' : ltb x (ent 4 c.d) = false := by simpa using hx
      rw [hx']
      refine (if_neg (by decide)).trans ?_
      rw [childL_kid x r (childN c.d) (ent 4 c.d) h2 (fun c' hc' => he c' (by simp [hc'])) hx']
      unfold kidN
      rw [List.foldl_cons, if_neg hx]
theorem childM_kid {p : PV} (h : okP p = true) (hk : p.k ≠ 2) (x : List Nat) : childM p x = kidN x p.x p.es := by
  obtain ⟨hr, _, hk', hc⟩ := okP_rise h
  have h3 := hk'.resolve_left hk
  have he : eo p.k = 4 := by unfold eo; rw [if_pos h3]
  rw [he] at hr hc
  refine childL_kid x p.es p.x [] (rise_upw hr) (fun c hcm => ?_) (ltb_nil x)
  obtain ⟨i, hi, e⟩ := List.getElem_of_mem hcm
  have hu := (rise_at hr hi).1
  rw [getD_lt hi, e] at hu
  have := hc c hcm hu
  unfold ent
  rw [List.length_take]
  omega
end Go.Proofs.Ytcajidlekfkjlaa
