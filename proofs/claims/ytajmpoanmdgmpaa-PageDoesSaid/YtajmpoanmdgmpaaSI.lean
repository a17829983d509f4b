/-
  THE WALK OF put: AN ENTRY IS INSERTED.
-/
import Derived.Test.YtajmpoanmdgmpaaSH
import Derived.Test.YtajmpoanmdgmpaaSE
namespace Go.Proofs.Ytajmpoanmdgmpaa
open Go.RowKit

theorem blk_cr {w : World} {qb : Nat} {x : CV} {T : Nat → Prop} (hv : Blk w qb 58 #[.bool x.u, .int .u32 (x.k : Int), .slice x.A x.m x.c]) (hx : x.In w T) : CR w All T (some ⟨qb, 0, none⟩) 1 [x] := by
  refine ⟨rfl, fun y hy => ?_, by omega, fun _ => ⟨_, 0, rfl, hv.lt, trivial, fun i y hi => ?_⟩⟩
  · rw [List.mem_singleton] at hy; subst hy; exact hx
  · cases i with
    | succ i => simp at hi
    | zero =>
      simp at hi
      subst hi
      exact ⟨(hv.cell 0).trans (by simp), (hv.cell 1).trans (by simp), (hv.cell 2).trans (by simp)⟩
def InsV (w : World) (S T : Nat → Prop) (A : Option Addr) (n c i : Nat) (l : List CV) (x : CV) (e : Ending) (w' : World) : Prop :=
  ∃ v, e = .returned v ∧ OwC w' (fun b => S b ∨ w.heap.size ≤ b) (fun b => T b ∧ b < w.heap.size) v (n + 1) (l.take i ++ x :: l.drop i) ∧ Fr w w' (fun b => Value.ownBlock (.slice A n c) = some b)
theorem insert_all (w : World) (S T : Nat → Prop) (A : Option Addr) (n c : Nat) (l : List CV) (ho : OwC w S T (.slice A n c) n l) (hn : n ≤ 1000) (i : Nat) (hi : i ≤ n) (qb : Nat) (x : CV) (hv : Blk w qb 58 #[.bool x.u, .int .u32 (x.k : Int), .slice x.A x.m x.c]) (hne : ¬ S qb) (hx : x.In w T) :
    Calls Try.prog 100 #[.slice A n c, .int .i64 (i : Int), .slice (some ⟨qb, 0, none⟩) 1 1] w (InsV w S T A n c i l x) := by
  rcases Nat.lt_or_ge i n with h | h
  · obtain ⟨g, cap, e, _, hSg, _⟩ := ho.row (by omega)
    injection e with e1 _ e3
    subst e1 e3
    refine (insert_mid w S T g n c l ho hn i h qb x hv (fun e => hne (e ▸ hSg)) hx).mono ?_
    rintro e w' ⟨v, he, h1, h2⟩
    exact ⟨v, he, h1, h2.mono fun b _ hb => by rw [hb]; rfl⟩
  · obtain rfl : i = n := by omega
    have hnc := (ho.reads (by omega))
    obtain ⟨A', c', e, hnc, _⟩ := hnc
    injection e with e1 _ e3
    subst e1 e3
    refine (insert_end w S T A i c l ho hn hnc qb x (blk_cr hv hx)).mono ?_
    rintro e w' ⟨v, he, h1, h2⟩
    have hl := ho.len
    refine ⟨v, he, ?_, (Fr.refl w _).grown h2 fun k hk => Or.inl hk⟩
    rw [List.take_of_length_le (by omega), List.drop_of_length_le (by omega)]
    exact h1
def full (es : List CE) : Bool := decide (60 < es.length) || decide (512 < psz es)
/-- what put comes to -/
def PutO (w : World) (S T : Nat → Prop) (g : Nat) (p : PV) (es : List CE) (e : Ending) (w' : World) : Prop := if full es then DidNo w S g 4 e w' else DidOk w S T g p es e w'
set_option maxHeartbeats 4000000 in
set_option maxRecDepth 100000 in
theorem put_ins (w : World) (S T : Nat → Prop) (g : Nat) (p : PV) (hb : Blk w g 26 (pcs p)) (hg : ¬ S g ∧ ¬ T g) (ho : PO w S T p) (hn : p.n ≤ 300) (hml : ∀ x ∈ p.l, x.m ≤ 2000) (hSb : ∀ b, S b → b < w.heap.size) (hTb : ∀ b, T b → b < w.heap.size) (i : Nat) (hi : i ≤ p.n) (hki : p.k = 1 → i = p.n) (A : Option Addr) (m c : Nat) (d : List Nat) (hd : RB w All A m d) (hm : m ≤ 2000) :
    Calls Try.prog 84 #[.pointer (some ⟨g, 0, none⟩), .int .i64 (i : Int), .bool false, .slice A m c] w (PutO w S T g p (p.es.take i ++ ⟨true, 0, d⟩ :: p.es.drop i)) := by
  obtain ⟨y0, y1, y2, y3⟩ := pcs_cells hb
  have HO := Lib.hid ho
  have HBK := Lib.hid hb
  have HG := Lib.hid hg
  have HSB := Lib.hid (show (∀ b, S b → b < w.heap.size) ∧ ∀ b, T b → b < w.heap.size from ⟨hSb, hTb⟩)
  have HML := Lib.hid hml
  have HCL := Lib.hid (clone_any w All A m c d hd (by omega))
  have hdl : d.length = m := hd.len
  have hpl : p.l.length = p.n := ho.o.len
  have hgl := hb.lt
  obtain ⟨pk, ps, px, pA, n, pc, l⟩ := p
  simp only at hn hi hki hpl y0 y1 y2 y3
  have d1 : decide ((i : Int) < 0) = false := decide_eq_false (by omega)
  have d2 : decide ((i : Int) > (n : Int)) = false := decide_eq_false (by omega)
  have d2n : decide (n < i) = false := decide_eq_false (by omega)
  have d3 : decide ((i : Int) < (n : Int)) = decide (i < n) := by rw [decide_eq_decide]; omega
  obtain ⟨kb, hkb⟩ : ∃ kb, kb = decide (pk = 1) := ⟨_, rfl⟩
  have hk1 : (pk == 1) = kb := by rw [hkb]; rfl
  obtain ⟨ib, hib⟩ : ∃ ib, ib = decide (i < n) := ⟨_, rfl⟩
  rw [← hib] at d3
  have d3n : decide (i < n) = ib := hib.symm
  have hkib : kb = true → ib = false := fun h => by rw [hib]; refine decide_eq_false ?_; have := hki (by rw [hkb] at h; simpa using h); omega
  have HML2 := Lib.hid (show d.length = m ∧ l.length = n ∧ g < w.heap.size from ⟨hdl, hpl, hgl⟩)
  have HIN := Lib.hid hi
  obtain ⟨q, hqn⟩ : ∃ q, q = n + 1 := ⟨_, rfl⟩
  have HQN := Lib.hid hqn
  have hq300 : q ≤ 301 := by omega
  clear hqn hb hg ho hml hSb hTb hd hdl hpl hgl hki hkb hib hi
  go_enter Try.func84, Try.ntmps84
  go_wp2_with fail
  with_reducible refine HCL.out.mono ?_
  rintro e w1 ⟨v, rfl, hnew, hb1⟩
  obtain ⟨A1, c1, rfl, hmc1, hnz1, hr1⟩ := hnew.reads
  have hdl := HML2.out.1
  rw [hdl] at hr1 hmc1
  obtain ⟨W1, hW1⟩ : ∃ W1, w1.alloc (.cells #[.bool true, .int .u32 0, .slice A1 m c1] 58) = W1 := ⟨_, rfl⟩
  have hcb : Blk W1 w1.heap.size 58 #[.bool true, .int .u32 0, .slice A1 m c1] := by rw [← hW1]; exact Blk.new w1 58 _
  have hf1 : Fr w W1 No := by rw [← hW1]; exact (Fr.of_below hb1 No).alloc _
  have hz1 : W1.heap.size = w1.heap.size + 1 := by rw [← hW1]; simp
  have hr1' : RB W1 (fun b => w.heap.size ≤ b ∧ b < w1.heap.size) A1 m d := by rw [← hW1]; exact (hr1.mono (T := fun b => w.heap.size ≤ b ∧ b < w1.heap.size) fun b hlt hb => ⟨hb, hlt⟩).alloc _
  have hwb1 : WB W1 (fun b => w.heap.size ≤ b ∧ b < w1.heap.size) A1 m := by
    obtain ⟨Aw, cw, ew, hwb⟩ := WB.of_ow (hnew.mono (T := fun b => w.heap.size ≤ b ∧ b < w1.heap.size) fun b hlt hb => ⟨hb, hlt⟩)
    injection ew with ew _ ew3
    subst ew ew3
    rw [← hdl, ← hW1]
    exact hwb.alloc _
  obtain ⟨T1, hT1⟩ : ∃ T1 : Nat → Prop, T1 = fun b => T b ∨ (w.heap.size ≤ b ∧ b < w1.heap.size) := ⟨_, rfl⟩
  have hbg := HBK.out.keep hf1 fun h => h
  have hxi : CV.In W1 T1 ⟨true, 0, A1, m, c1, d⟩ := ⟨hr1'.mono fun b _ hb => by rw [hT1]; exact Or.inr hb, by simp only; omega, hmc1, by simp only; omega, hnz1⟩
  have hown : OwC W1 S T1 (.slice pA n pc) n l := (HO.out.o.fr hf1).mono (fun b _ hb => hb) (fun b _ hb => by rw [hT1]; exact Or.inl hb) fun k hk hb => by
    rw [hT1] at hb
    rcases hb with hb | hb
    · exact HO.out.o.2.2.2 k hk hb
    · have := HSB.out.1 k (HO.out.o.2.2.1 k hk); omega
  obtain ⟨y0, y1, y2, y3⟩ := pcs_cells hbg
  have c0 := hcb.cell 0
  have c1' := hcb.cell 1
  have c2 := hcb.cell 2
  simp only [List.getElem?_toArray, List.getElem?_cons_zero, List.getElem?_cons_succ] at c0 c1' c2
  simp only at y0 y1 y2 y3
  have HF1 := Lib.hid hf1
  have HB1 := Lib.hid (show w.heap.size ≤ w1.heap.size from hb1.size)
  have HZ1 := Lib.hid hz1
  have HCB := Lib.hid hcb
  have HBG := Lib.hid hbg
  have HXI := Lib.hid hxi
  have HOW := Lib.hid hown
  have HWB1 := Lib.hid hwb1
  have HT1 := Lib.hid hT1
  have hgW : g ≠ w1.heap.size := by have := HML2.out.2.2; have := hb1.size; omega
  have HGW := Lib.hid hgW
  clear hnew hb1 hr1 hr1' hwb1 hT1 hbg hxi hown hcb hz1 hgW
  have hcase : kb = false ∨ (kb = true ∧ ib = false) := by cases kb; exact Or.inl rfl; exact Or.inr ⟨rfl, hkib rfl⟩
  rcases hcase with rfl | ⟨rfl, rfl⟩
  · go_wp2_with fail
    refine wp_region_held_drew (S := fun wx => Fr W1 wx (fun b => S b ∨ b = g)) (by kernel_rfl) ((Fr.refl W1 _).drew) (fun hS => ?_)
    refine wpAnyH_take (i := 0) (v := ?_) rfl (by kernel_rfl) (by kernel_rfl) (by kernel_rfl) (fun _ _ _ h => h) (Or.inl ⟨by rfl, ?_⟩) hS ?_
    rotate_left
    · (intro wq hSw; go_simp; try with_reducible rfl)
    refine wpAnyH_take (i := 1) (v := ?_) rfl (by kernel_rfl) (by kernel_rfl) (by kernel_rfl) (fun _ _ _ h => h) (Or.inl ⟨by rfl, ?_⟩) hS ?_
    rotate_left
    · (intro wq hSw; go_simp; try with_reducible rfl)
    simp only [List.getElem_toArray, List.getElem_cons_succ, List.getElem_cons_zero, Act.put, List.setIfInBounds_toArray, List.set_cons_succ, List.set_cons_zero]
    refine wpAnyH_take (i := 2) (v := ?_) rfl (by kernel_rfl) (by kernel_rfl) (by kernel_rfl) (fun _ _ _ h => h) (Or.inl ⟨by rfl, ?_⟩) hS ?_
    rotate_left
    · (intro wq hSw; go_simp; try with_reducible rfl)
    simp only [List.getElem_toArray, List.getElem_cons_succ, List.getElem_cons_zero, Act.put, List.setIfInBounds_toArray, List.set_cons_succ, List.set_cons_zero]
    refine wpAnyH_take (i := 3) (v := ?_) rfl (by kernel_rfl) (by kernel_rfl) (by kernel_rfl) (fun _ _ _ h => h) (Or.inl ⟨by rfl, ?_⟩) hS ?_
    rotate_left
    · (intro wq hSw; go_simp; try with_reducible rfl)
    simp only [List.getElem_toArray, List.getElem_cons_succ, List.getElem_cons_zero, Act.put, List.setIfInBounds_toArray, List.set_cons_succ, List.set_cons_zero]
    refine wpAnyH_take (i := 5) (v := ?_) rfl (by kernel_rfl) (by kernel_rfl) (by kernel_rfl) (fun _ _ _ h => h) (Or.inl ⟨by rfl, ?_⟩) hS ?_
    rotate_left
    · (intro wq hSw; go_simp; try with_reducible rfl)
    simp only [List.getElem_toArray, List.getElem_cons_succ, List.getElem_cons_zero, Act.put, List.setIfInBounds_toArray, List.set_cons_succ, List.set_cons_zero]
    refine wpAnyH_take (i := 6) (v := ?_) rfl (by kernel_rfl) (by kernel_rfl) (by kernel_rfl) (fun _ _ _ h => h) (Or.inl ⟨by rfl, ?_⟩) hS ?_
    rotate_left
    · (intro wq hSw; have hq := HCB.out.keep hSw (fun h => h.elim (fun h => by have := HSB.out.1 _ h; have := HB1.out; omega) fun h => HGW.out h.symm); have h0 := hq.cell 0; have h1 := hq.cell 1; have h2 := hq.cell 2; simp only [List.getElem?_toArray, List.getElem?_cons_zero, List.getElem?_cons_succ] at h0 h1 h2; go_simp; try with_reducible rfl)
    simp only [List.getElem_toArray, List.getElem_cons_succ, List.getElem_cons_zero, Act.put, List.setIfInBounds_toArray, List.set_cons_succ, List.set_cons_zero]
    refine wpAnyH_ready (rs := [4, 7]) (by kernel_rfl) (by simp) ?_
    refine AllReadyH.cons rfl (fun K hK => ?_) (AllReadyH.cons rfl (fun K hK => ?_) AllReadyH.nil)
    · have hc := (HBG.out.drew).cell 3
      simp only [pcs, List.getElem?_toArray, List.getElem?_cons_zero, List.getElem?_cons_succ] at hc
      go_simp
      refine hK.out _ _ hS (fun hS => ?_)
      clear hK K hc
      refine wpAnyH_ready (rs := [7]) (by kernel_rfl) (by simp) ?_
      refine AllReadyH.cons rfl (fun K hK => ?_) AllReadyH.nil
      go_simp
      refine hK.out _ _ (hS.alloc _) (fun hS => ?_)
      clear hK K
      have hqb := Blk.new W1.drew 58 #[.bool true, .int .u32 0, .slice A1 m c1]
      have hownQ : OwC (W1.drew.alloc (.cells #[.bool true, .int .u32 0, .slice A1 m c1] 58)) S T1 (.slice pA n pc) n l := HOW.out.drew.alloc _
      have hxiQ : CV.In (W1.drew.alloc (.cells #[.bool true, .int .u32 0, .slice A1 m c1] 58)) T1 ⟨true, 0, A1, m, c1, d⟩ := HXI.out.keep ((Fr.refl W1 No).drew.alloc _) fun _ _ hn => hn
      have HIA := Lib.hid (insert_all (W1.drew.alloc (.cells #[.bool true, .int .u32 0, .slice A1 m c1] 58)) S T1 pA n pc l hownQ (by omega) i HIN.out W1.heap.size ⟨true, 0, A1, m, c1, d⟩ hqb (fun h => by have := HSB.out.1 _ h; have := HB1.out; have := HZ1.out; omega) hxiQ)
      clear hqb hownQ hxiQ
      refine wpAnyH_ready (rs := [8]) (by kernel_rfl) (by simp) ?_
      refine AllReadyH.cons rfl (fun K hK => ?_) AllReadyH.nil
      go_simp
      refine HIA.out.mono ?_
      rintro e w3 ⟨v3, rfl, hown3, hf3⟩
      have hf3S : Fr W1 w3 (fun b => S b ∨ b = g) := ((Fr.refl W1 _).drew.alloc _).trans hf3 fun b hb => Or.inl (Or.inl (HO.out.o.2.2.1 b hb))
      refine hK.out _ _ hf3S (fun hS => ?_)
      clear hK K
      rw [← HQN.out] at hown3
      obtain ⟨A3, c3, rfl, hnc3, _, _, _⟩ := hown3.reads (by have := HQN.out; omega)
      have HSZ3 := Lib.hid (show W1.heap.size + 1 ≤ w3.heap.size by have := hf3.size; simpa using this)
      have hf3' : Fr W1 w3 (fun b => Value.ownBlock (.slice pA n pc) = some b) := ((Fr.refl W1 _).drew.alloc _).trans hf3 fun b hb => Or.inl hb
      have hg3 := HBG.out.keep hf3' fun h => HG.out.1 (HO.out.o.2.2.1 g h)
      have n3 := hg3.cell 3
      have z3 := hg3.frozen 3
      simp only [pcs, List.getElem?_toArray, List.getElem?_cons_zero, List.getElem?_cons_succ] at n3
      have HO3 := Lib.hid hown3
      have HF3 := Lib.hid hf3'
      have HG3 := Lib.hid hg3
      clear hown3 hf3 hf3S hf3' hg3
      refine wpAnyH_take (i := 9) (v := ?_) rfl (by kernel_rfl) (by kernel_rfl) (by kernel_rfl) (fun _ _ _ h => h) (Or.inl ⟨by rfl, ?_⟩) hS ?_
      rotate_left
      · (intro wq hSw; go_simp; try with_reducible rfl)
      simp only [List.getElem_toArray, List.getElem_cons_succ, List.getElem_cons_zero, Act.put, List.setIfInBounds_toArray, List.set_cons_succ, List.set_cons_zero]
      refine wpAnyH_take (i := 10) (v := ?_) rfl (by kernel_rfl) (by kernel_rfl) (by kernel_rfl) (fun _ _ _ h => h) (Or.inl ⟨by rfl, ?_⟩) hS ?_
      rotate_left
      · (intro wq hSw; go_simp; try with_reducible rfl)
      simp only [List.getElem_toArray, List.getElem_cons_succ, List.getElem_cons_zero, Act.put, List.setIfInBounds_toArray, List.set_cons_succ, List.set_cons_zero]
      refine wpAnyH_ready (rs := [11]) (by kernel_rfl) (by simp) ?_
      refine AllReadyH.cons rfl (fun K hK => ?_) AllReadyH.nil
      go_simp
      refine hK.out _ _ ?_ (fun hS => ?_)
      · exact hS.setCell (p := ⟨g, 3, none⟩) (Or.inl (Or.inr rfl)) _
      clear hK K
      refine wpAnyH_done (by kernel_rfl) ?_ _
      obtain ⟨W4, hW4⟩ : ∃ W4, w3.setCell ⟨g, 3, none⟩ (.slice A3 q c3) = W4 := ⟨_, rfl⟩
      have hb4 : Blk W4 g 26 (pcs ⟨pk, ps, px, A3, q, c3, l.take i ++ ⟨true, 0, A1, m, c1, d⟩ :: l.drop i⟩) := by rw [← hW4]; exact HG3.out.set_ 3 _
      have hf4 : Fr w3 W4 (fun b => b = g) := by rw [← hW4]; exact fr_set (Fr.refl _ _) _ _
      have HB4 := Lib.hid hb4
      have HF4 := Lib.hid hf4
      clear hb4 hf4 n3 z3 hS
      have hsz : W1.heap.size + 1 ≤ w3.heap.size := HSZ3.out
      obtain ⟨L, hL⟩ : ∃ L, L = l.take i ++ (⟨true, 0, A1, m, c1, d⟩ : CV) :: l.drop i := ⟨_, rfl⟩
      rw [← hL] at HO3 HB4
      have hes : L.map CV.e = (l.map CV.e).take i ++ ⟨true, 0, d⟩ :: (l.map CV.e).drop i := by rw [hL]; simp [CV.e, List.map_take, List.map_drop]
      have hll : L.length = q := by rw [hL, HQN.out]; simp; have := HML2.out.2.1; have := HIN.out; omega
      obtain ⟨S3, hS3⟩ : ∃ S3 : Nat → Prop, S3 = fun b => S b ∨ (W1.drew.alloc (.cells #[.bool true, .int .u32 0, .slice A1 m c1] 58)).heap.size ≤ b := ⟨_, rfl⟩
      obtain ⟨T3, hT3⟩ : ∃ T3 : Nat → Prop, T3 = fun b => T1 b ∧ b < (W1.drew.alloc (.cells #[.bool true, .int .u32 0, .slice A1 m c1] 58)).heap.size := ⟨_, rfl⟩
      have hsw : w.heap.size ≤ (W1.drew.alloc (.cells #[.bool true, .int .u32 0, .slice A1 m c1] 58)).heap.size ∧ w1.heap.size ≤ (W1.drew.alloc (.cells #[.bool true, .int .u32 0, .slice A1 m c1] 58)).heap.size := by
        have := HB1.out
        have := HZ1.out
        have h9 : (W1.drew.alloc (.cells #[.bool true, .int .u32 0, .slice A1 m c1] 58)).heap.size = W1.heap.size + 1 := by simp
        omega
      have ho3 : OwC w3 S3 T3 (.slice A3 q c3) q L := by rw [hS3, hT3]; exact HO3.out
      have hgS : ∀ b, S3 b → ¬ b = g := fun b hb e => by
        rw [hS3] at hb
        rcases hb with hb | hb
        · exact HG.out.1 (e ▸ hb)
        · have := HML2.out.2.2; omega
      have hgT : ∀ b, T3 b → ¬ b = g := fun b hb e => by
        rw [hT3, HT1.out] at hb
        rcases hb.1 with hb | hb
        · exact HG.out.2 (e ▸ hb)
        · have := HML2.out.2.2; omega
      have hpo4 : PO W4 S3 T3 ⟨pk, ps, px, A3, q, c3, L⟩ := ⟨ho3.keep HF4.out hgS hgT, by show q ≤ _; omega, HO.out.k1, HO.out.k2, HO.out.s, HO.out.x⟩
      have hown : ∀ b, Value.ownBlock (.slice pA n pc) = some b → S b ∧ ¬ T b := fun b hb => ⟨HO.out.o.2.2.1 b hb, HO.out.o.2.2.2 b hb⟩
      have hf9 : Fr w W4 (fun b => b = g ∨ S b) := ((HF1.out.mono (T := fun b => b = g ∨ S b) fun _ _ h => h.elim).trans HF3.out fun b hb => Or.inl (Or.inr (hown b hb).1)).trans HF4.out fun b hb => Or.inl (Or.inl hb)
      have hST : (∀ b, S3 b → S b ∨ w.heap.size ≤ b) ∧ (∀ b, T3 b → T b ∨ w.heap.size ≤ b) := ⟨fun b hb => by
          rw [hS3] at hb
          rcases hb with hb | hb
          · exact Or.inl hb
          · exact Or.inr (by omega), fun b hb => by
          rw [hT3, HT1.out] at hb
          rcases hb.1 with hb | hb
          · exact Or.inl hb
          · exact Or.inr hb.1⟩
      have hsoft : (∀ x ∈ l, WB w T x.A x.m) → ∀ x ∈ L, WB W4 T3 x.A x.m := by
        intro hw y hy
        have hlift : ∀ {U : Nat → Prop} {A' : Option Addr} {m' : Nat}, WB W1 U A' m' → (∀ b, U b → T1 b ∧ b < w1.heap.size ∧ ¬ b = g ∧ ¬ Value.ownBlock (.slice pA n pc) = some b) → WB W4 T3 A' m' := by
          intro U A' m' hwb hU
          refine ((hwb.keep HF3.out fun b hb h => (hU b hb).2.2.2 h).keep HF4.out fun b hb h => (hU b hb).2.2.1 h).mono fun b _ hb => ?_
          rw [hT3]
          exact ⟨(hU b hb).1, by have := (hU b hb).2.1; omega⟩
        rw [hL] at hy
        have hold : ∀ z ∈ l, WB W4 T3 z.A z.m := fun z hz => hlift (((hw z hz).mono (T := fun b => T b ∧ b < w.heap.size) fun b hlt hb => ⟨hb, hlt⟩).keep HF1.out fun _ _ h => h) fun b hb => ⟨by rw [HT1.out]; exact Or.inl hb.1, by have := HB1.out; omega, fun e => HG.out.2 (e ▸ hb.1), fun h => (hown b h).2 hb.1⟩
        rcases List.mem_append.1 hy with hy | hy
        · exact hold y (List.mem_of_mem_take hy)
        · rcases List.mem_cons.1 hy with rfl | hy
          · exact hlift HWB1.out fun b hb => ⟨by rw [HT1.out]; exact Or.inr hb, hb.2, fun e => by have := HML2.out.2.2; omega, fun h => by have := HSB.out.1 b (hown b h).1; omega⟩
          · exact hold y (List.mem_of_mem_drop hy)
      have hsmall : ∀ x ∈ L, x.m ≤ 9223372036854 := fun y hy => by
        rw [hL] at hy
        rcases List.mem_append.1 hy with hy | hy
        · have := HML.out y (List.mem_of_mem_take hy); omega
        · rcases List.mem_cons.1 hy with rfl | hy
          · simp only; omega
          · have := HML.out y (List.mem_of_mem_drop hy); omega
      have hsize := size_any ⟨pk, ps, px, A3, q, c3, L⟩ W4 hpo4.In.all hsmall (by show q ≤ 1000; omega)
      obtain ⟨es, hese⟩ : ∃ es, es = (l.map CV.e).take i ++ (⟨true, 0, d⟩ : CE) :: (l.map CV.e).drop i := ⟨_, rfl⟩
      have hpe : (⟨pk, ps, px, A3, q, c3, L⟩ : PV).es = es := by rw [hese]; exact hes
      have hlen : es.length = q := by rw [← hpe, ← hll]; exact List.length_map _
      rw [hpe] at hsize
      obtain ⟨z, hz⟩ : ∃ z, z = psz es := ⟨_, rfl⟩
      rw [← hz] at hsize
      obtain ⟨u0, u1, u2, u3⟩ := pcs_cells HB4.out
      simp only at u0 u1 u2 u3
      have HSIZE := Lib.hid hsize
      have HPO4 := Lib.hid hpo4
      have HF9 := Lib.hid hf9
      have HST := Lib.hid hST
      have HSOFT := Lib.hid hsoft
      have HPE := Lib.hid hpe
      have HZ := Lib.hid hz
      have HLEN := Lib.hid hlen
      have HES := Lib.hid hese
      clear hsize hpo4 hf9 hST hsoft hpe hz hlen hese hes hll hL hS3 hT3 hsw ho3 hgS hgT hown hsmall hsz y0 y1 y2 y3 c0 c1' c2
      simp only [PV.agg] at HSIZE
      by_cases h60 : 60 < q
      · have e1 : decide ((q : Int) > 60) = true := decide_eq_true (by omega)
        have e2 : decide (60 < q) = true := decide_eq_true h60
        have HH := Lib.hid h60
        clear h60
        go_wp2_with fail
        go_ret
        unfold PutO
        have hfull : full ((l.map CV.e).take i ++ (⟨true, 0, d⟩ : CE) :: (l.map CV.e).drop i) = true := by
          rw [← HES.out]
          unfold full
          rw [HLEN.out, decide_eq_true HH.out]
          rfl
        exact if_pos hfull ▸ ⟨rfl, HF9.out⟩
      · have e1 : decide ((q : Int) > 60) = false := decide_eq_false (by omega)
        have e2 : decide (60 < q) = false := decide_eq_false h60
        have HH := Lib.hid h60
        clear h60
        go_wp2_with fail
        with_reducible refine HSIZE.out.mono ?_
        rintro e w5 ⟨rfl, hb5⟩
        have HB5 := Lib.hid hb5
        clear hb5
        by_cases h512 : 512 < z
        · have e3 : decide ((z : Int) > 512) = true := decide_eq_true (by omega)
          have e4 : decide (512 < z) = true := decide_eq_true h512
          have HH5 := Lib.hid h512
          clear h512
          go_wp2_with fail
          go_ret
          unfold PutO
          have hfull : full ((l.map CV.e).take i ++ (⟨true, 0, d⟩ : CE) :: (l.map CV.e).drop i) = true := by
            rw [← HES.out]
            unfold full
            rw [← HZ.out, decide_eq_true HH5.out, Bool.or_true]
          exact if_pos hfull ▸ ⟨rfl, HF9.out.trans (Fr.of_below HB5.out No) fun _ hb => hb.elim⟩
        · have e3 : decide ((z : Int) > 512) = false := decide_eq_false (by omega)
          have e4 : decide (512 < z) = false := decide_eq_false h512
          have HH5 := Lib.hid h512
          clear h512
          go_wp2_with fail
          go_ret
          unfold PutO
          have hfull : full ((l.map CV.e).take i ++ (⟨true, 0, d⟩ : CE) :: (l.map CV.e).drop i) = false := by
            rw [← HES.out]
            unfold full
            rw [← HZ.out, HLEN.out, decide_eq_false HH5.out, decide_eq_false HH.out]
            rfl
          have hb5 := Fr.of_below HB5.out No
          refine (if_neg (by show ¬ (full ((l.map CV.e).take i ++ (⟨true, 0, d⟩ : CE) :: (l.map CV.e).drop i) = true); rw [hfull]; simp)) ▸ ⟨⟨pk, ps, px, A3, q, c3, L⟩, S3, T3, rfl, HB4.out.keep hb5 fun h => h, HPO4.out.keep hb5 (fun _ _ hn => hn) fun _ _ hn => hn, ?_, ⟨rfl, rfl, rfl⟩, HST.out.1, HST.out.2, HF9.out.trans hb5 fun _ hb => hb.elim, fun hw y hy => (HSOFT.out hw y hy).keep hb5 fun _ _ hn => hn⟩
          rw [HPE.out]; exact HES.out
    · go_simp
      refine hK.out _ _ (hS.alloc _) (fun hS => ?_)
      clear hK K
      refine wpAnyH_ready (rs := [4]) (by kernel_rfl) (by simp) ?_
      refine AllReadyH.cons rfl (fun K hK => ?_) AllReadyH.nil
      have hc := ((HBG.out.alloc (.cells #[.bool true, .int .u32 0, .slice A1 m c1] 58)).drew).cell 3
      simp only [pcs, List.getElem?_toArray, List.getElem?_cons_zero, List.getElem?_cons_succ] at hc
      go_simp
      refine hK.out _ _ hS (fun hS => ?_)
      clear hK K hc
      have hqb := Blk.new W1.drew 58 #[.bool true, .int .u32 0, .slice A1 m c1]
      have hownQ : OwC (W1.drew.alloc (.cells #[.bool true, .int .u32 0, .slice A1 m c1] 58)) S T1 (.slice pA n pc) n l := HOW.out.drew.alloc _
      have hxiQ : CV.In (W1.drew.alloc (.cells #[.bool true, .int .u32 0, .slice A1 m c1] 58)) T1 ⟨true, 0, A1, m, c1, d⟩ := HXI.out.keep ((Fr.refl W1 No).drew.alloc _) fun _ _ hn => hn
      have HIA := Lib.hid (insert_all (W1.drew.alloc (.cells #[.bool true, .int .u32 0, .slice A1 m c1] 58)) S T1 pA n pc l hownQ (by omega) i HIN.out W1.heap.size ⟨true, 0, A1, m, c1, d⟩ hqb (fun h => by have := HSB.out.1 _ h; have := HB1.out; have := HZ1.out; omega) hxiQ)
      clear hqb hownQ hxiQ
      refine wpAnyH_ready (rs := [8]) (by kernel_rfl) (by simp) ?_
      refine AllReadyH.cons rfl (fun K hK => ?_) AllReadyH.nil
      go_simp
      refine HIA.out.mono ?_
      rintro e w3 ⟨v3, rfl, hown3, hf3⟩
      have hf3S : Fr W1 w3 (fun b => S b ∨ b = g) := ((Fr.refl W1 _).drew.alloc _).trans hf3 fun b hb => Or.inl (Or.inl (HO.out.o.2.2.1 b hb))
      refine hK.out _ _ hf3S (fun hS => ?_)
      clear hK K
      rw [← HQN.out] at hown3
      obtain ⟨A3, c3, rfl, hnc3, _, _, _⟩ := hown3.reads (by have := HQN.out; omega)
      have HSZ3 := Lib.hid (show W1.heap.size + 1 ≤ w3.heap.size by have := hf3.size; simpa using this)
      have hf3' : Fr W1 w3 (fun b => Value.ownBlock (.slice pA n pc) = some b) := ((Fr.refl W1 _).drew.alloc _).trans hf3 fun b hb => Or.inl hb
      have hg3 := HBG.out.keep hf3' fun h => HG.out.1 (HO.out.o.2.2.1 g h)
      have n3 := hg3.cell 3
      have z3 := hg3.frozen 3
      simp only [pcs, List.getElem?_toArray, List.getElem?_cons_zero, List.getElem?_cons_succ] at n3
      have HO3 := Lib.hid hown3
      have HF3 := Lib.hid hf3'
      have HG3 := Lib.hid hg3
      clear hown3 hf3 hf3S hf3' hg3
      refine wpAnyH_take (i := 9) (v := ?_) rfl (by kernel_rfl) (by kernel_rfl) (by kernel_rfl) (fun _ _ _ h => h) (Or.inl ⟨by rfl, ?_⟩) hS ?_
      rotate_left
      · (intro wq hSw; go_simp; try with_reducible rfl)
      simp only [List.getElem_toArray, List.getElem_cons_succ, List.getElem_cons_zero, Act.put, List.setIfInBounds_toArray, List.set_cons_succ, List.set_cons_zero]
      refine wpAnyH_take (i := 10) (v := ?_) rfl (by kernel_rfl) (by kernel_rfl) (by kernel_rfl) (fun _ _ _ h => h) (Or.inl ⟨by rfl, ?_⟩) hS ?_
      rotate_left
      · (intro wq hSw; go_simp; try with_reducible rfl)
      simp only [List.getElem_toArray, List.getElem_cons_succ, List.getElem_cons_zero, Act.put, List.setIfInBounds_toArray, List.set_cons_succ, List.set_cons_zero]
      refine wpAnyH_ready (rs := [11]) (by kernel_rfl) (by simp) ?_
      refine AllReadyH.cons rfl (fun K hK => ?_) AllReadyH.nil
      go_simp
      refine hK.out _ _ ?_ (fun hS => ?_)
      · exact hS.setCell (p := ⟨g, 3, none⟩) (Or.inl (Or.inr rfl)) _
      clear hK K
      refine wpAnyH_done (by kernel_rfl) ?_ _
      obtain ⟨W4, hW4⟩ : ∃ W4, w3.setCell ⟨g, 3, none⟩ (.slice A3 q c3) = W4 := ⟨_, rfl⟩
      have hb4 : Blk W4 g 26 (pcs ⟨pk, ps, px, A3, q, c3, l.take i ++ ⟨true, 0, A1, m, c1, d⟩ :: l.drop i⟩) := by rw [← hW4]; exact HG3.out.set_ 3 _
      have hf4 : Fr w3 W4 (fun b => b = g) := by rw [← hW4]; exact fr_set (Fr.refl _ _) _ _
      have HB4 := Lib.hid hb4
      have HF4 := Lib.hid hf4
      clear hb4 hf4 n3 z3 hS
      have hsz : W1.heap.size + 1 ≤ w3.heap.size := HSZ3.out
      obtain ⟨L, hL⟩ : ∃ L, L = l.take i ++ (⟨true, 0, A1, m, c1, d⟩ : CV) :: l.drop i := ⟨_, rfl⟩
      rw [← hL] at HO3 HB4
      have hes : L.map CV.e = (l.map CV.e).take i ++ ⟨true, 0, d⟩ :: (l.map CV.e).drop i := by rw [hL]; simp [CV.e, List.map_take, List.map_drop]
      have hll : L.length = q := by rw [hL, HQN.out]; simp; have := HML2.out.2.1; have := HIN.out; omega
      obtain ⟨S3, hS3⟩ : ∃ S3 : Nat → Prop, S3 = fun b => S b ∨ (W1.drew.alloc (.cells #[.bool true, .int .u32 0, .slice A1 m c1] 58)).heap.size ≤ b := ⟨_, rfl⟩
      obtain ⟨T3, hT3⟩ : ∃ T3 : Nat → Prop, T3 = fun b => T1 b ∧ b < (W1.drew.alloc (.cells #[.bool true, .int .u32 0, .slice A1 m c1] 58)).heap.size := ⟨_, rfl⟩
      have hsw : w.heap.size ≤ (W1.drew.alloc (.cells #[.bool true, .int .u32 0, .slice A1 m c1] 58)).heap.size ∧ w1.heap.size ≤ (W1.drew.alloc (.cells #[.bool true, .int .u32 0, .slice A1 m c1] 58)).heap.size := by
        have := HB1.out
        have := HZ1.out
        have h9 : (W1.drew.alloc (.cells #[.bool true, .int .u32 0, .slice A1 m c1] 58)).heap.size = W1.heap.size + 1 := by simp
        omega
      have ho3 : OwC w3 S3 T3 (.slice A3 q c3) q L := by rw [hS3, hT3]; exact HO3.out
      have hgS : ∀ b, S3 b → ¬ b = g := fun b hb e => by
        rw [hS3] at hb
        rcases hb with hb | hb
        · exact HG.out.1 (e ▸ hb)
        · have := HML2.out.2.2; omega
      have hgT : ∀ b, T3 b → ¬ b = g := fun b hb e => by
        rw [hT3, HT1.out] at hb
        rcases hb.1 with hb | hb
        · exact HG.out.2 (e ▸ hb)
        · have := HML2.out.2.2; omega
      have hpo4 : PO W4 S3 T3 ⟨pk, ps, px, A3, q, c3, L⟩ := ⟨ho3.keep HF4.out hgS hgT, by show q ≤ _; omega, HO.out.k1, HO.out.k2, HO.out.s, HO.out.x⟩
      have hown : ∀ b, Value.ownBlock (.slice pA n pc) = some b → S b ∧ ¬ T b := fun b hb => ⟨HO.out.o.2.2.1 b hb, HO.out.o.2.2.2 b hb⟩
      have hf9 : Fr w W4 (fun b => b = g ∨ S b) := ((HF1.out.mono (T := fun b => b = g ∨ S b) fun _ _ h => h.elim).trans HF3.out fun b hb => Or.inl (Or.inr (hown b hb).1)).trans HF4.out fun b hb => Or.inl (Or.inl hb)
      have hST : (∀ b, S3 b → S b ∨ w.heap.size ≤ b) ∧ (∀ b, T3 b → T b ∨ w.heap.size ≤ b) := ⟨fun b hb => by
          rw [hS3] at hb
          rcases hb with hb | hb
          · exact Or.inl hb
          · exact Or.inr (by omega), fun b hb => by
          rw [hT3, HT1.out] at hb
          rcases hb.1 with hb | hb
          · exact Or.inl hb
          · exact Or.inr hb.1⟩
      have hsoft : (∀ x ∈ l, WB w T x.A x.m) → ∀ x ∈ L, WB W4 T3 x.A x.m := by
        intro hw y hy
        have hlift : ∀ {U : Nat → Prop} {A' : Option Addr} {m' : Nat}, WB W1 U A' m' → (∀ b, U b → T1 b ∧ b < w1.heap.size ∧ ¬ b = g ∧ ¬ Value.ownBlock (.slice pA n pc) = some b) → WB W4 T3 A' m' := by
          intro U A' m' hwb hU
          refine ((hwb.keep HF3.out fun b hb h => (hU b hb).2.2.2 h).keep HF4.out fun b hb h => (hU b hb).2.2.1 h).mono fun b _ hb => ?_
          rw [hT3]
          exact ⟨(hU b hb).1, by have := (hU b hb).2.1; omega⟩
        rw [hL] at hy
        have hold : ∀ z ∈ l, WB W4 T3 z.A z.m := fun z hz => hlift (((hw z hz).mono (T := fun b => T b ∧ b < w.heap.size) fun b hlt hb => ⟨hb, hlt⟩).keep HF1.out fun _ _ h => h) fun b hb => ⟨by rw [HT1.out]; exact Or.inl hb.1, by have := HB1.out; omega, fun e => HG.out.2 (e ▸ hb.1), fun h => (hown b h).2 hb.1⟩
        rcases List.mem_append.1 hy with hy | hy
        · exact hold y (List.mem_of_mem_take hy)
        · rcases List.mem_cons.1 hy with rfl | hy
          · exact hlift HWB1.out fun b hb => ⟨by rw [HT1.out]; exact Or.inr hb, hb.2, fun e => by have := HML2.out.2.2; omega, fun h => by have := HSB.out.1 b (hown b h).1; omega⟩
          · exact hold y (List.mem_of_mem_drop hy)
      have hsmall : ∀ x ∈ L, x.m ≤ 9223372036854 := fun y hy => by
        rw [hL] at hy
        rcases List.mem_append.1 hy with hy | hy
        · have := HML.out y (List.mem_of_mem_take hy); omega
        · rcases List.mem_cons.1 hy with rfl | hy
          · simp only; omega
          · have := HML.out y (List.mem_of_mem_drop hy); omega
      have hsize := size_any ⟨pk, ps, px, A3, q, c3, L⟩ W4 hpo4.In.all hsmall (by show q ≤ 1000; omega)
      obtain ⟨es, hese⟩ : ∃ es, es = (l.map CV.e).take i ++ (⟨true, 0, d⟩ : CE) :: (l.map CV.e).drop i := ⟨_, rfl⟩
      have hpe : (⟨pk, ps, px, A3, q, c3, L⟩ : PV).es = es := by rw [hese]; exact hes
      have hlen : es.length = q := by rw [← hpe, ← hll]; exact List.length_map _
      rw [hpe] at hsize
      obtain ⟨z, hz⟩ : ∃ z, z = psz es := ⟨_, rfl⟩
      rw [← hz] at hsize
      obtain ⟨u0, u1, u2, u3⟩ := pcs_cells HB4.out
      simp only at u0 u1 u2 u3
      have HSIZE := Lib.hid hsize
      have HPO4 := Lib.hid hpo4
      have HF9 := Lib.hid hf9
      have HST := Lib.hid hST
      have HSOFT := Lib.hid hsoft
      have HPE := Lib.hid hpe
      have HZ := Lib.hid hz
      have HLEN := Lib.hid hlen
      have HES := Lib.hid hese
      clear hsize hpo4 hf9 hST hsoft hpe hz hlen hese hes hll hL hS3 hT3 hsw ho3 hgS hgT hown hsmall hsz y0 y1 y2 y3 c0 c1' c2
      simp only [PV.agg] at HSIZE
      by_cases h60 : 60 < q
      · have e1 : decide ((q : Int) > 60) = true := decide_eq_true (by omega)
        have e2 : decide (60 < q) = true := decide_eq_true h60
        have HH := Lib.hid h60
        clear h60
        go_wp2_with fail
        go_ret
        unfold PutO
        have hfull : full ((l.map CV.e).take i ++ (⟨true, 0, d⟩ : CE) :: (l.map CV.e).drop i) = true := by
          rw [← HES.out]
          unfold full
          rw [HLEN.out, decide_eq_true HH.out]
          rfl
        exact if_pos hfull ▸ ⟨rfl, HF9.out⟩
      · have e1 : decide ((q : Int) > 60) = false := decide_eq_false (by omega)
        have e2 : decide (60 < q) = false := decide_eq_false h60
        have HH := Lib.hid h60
        clear h60
        go_wp2_with fail
        with_reducible refine HSIZE.out.mono ?_
        rintro e w5 ⟨rfl, hb5⟩
        have HB5 := Lib.hid hb5
        clear hb5
        by_cases h512 : 512 < z
        · have e3 : decide ((z : Int) > 512) = true := decide_eq_true (by omega)
          have e4 : decide (512 < z) = true := decide_eq_true h512
          have HH5 := Lib.hid h512
          clear h512
          go_wp2_with fail
          go_ret
          unfold PutO
          have hfull : full ((l.map CV.e).take i ++ (⟨true, 0, d⟩ : CE) :: (l.map CV.e).drop i) = true := by
            rw [← HES.out]
            unfold full
            rw [← HZ.out, decide_eq_true HH5.out, Bool.or_true]
          exact if_pos hfull ▸ ⟨rfl, HF9.out.trans (Fr.of_below HB5.out No) fun _ hb => hb.elim⟩
        · have e3 : decide ((z : Int) > 512) = false := decide_eq_false (by omega)
          have e4 : decide (512 < z) = false := decide_eq_false h512
          have HH5 := Lib.hid h512
          clear h512
          go_wp2_with fail
          go_ret
          unfold PutO
          have hfull : full ((l.map CV.e).take i ++ (⟨true, 0, d⟩ : CE) :: (l.map CV.e).drop i) = false := by
            rw [← HES.out]
            unfold full
            rw [← HZ.out, HLEN.out, decide_eq_false HH5.out, decide_eq_false HH.out]
            rfl
          have hb5 := Fr.of_below HB5.out No
          refine (if_neg (by show ¬ (full ((l.map CV.e).take i ++ (⟨true, 0, d⟩ : CE) :: (l.map CV.e).drop i) = true); rw [hfull]; simp)) ▸ ⟨⟨pk, ps, px, A3, q, c3, L⟩, S3, T3, rfl, HB4.out.keep hb5 fun h => h, HPO4.out.keep hb5 (fun _ _ hn => hn) fun _ _ hn => hn, ?_, ⟨rfl, rfl, rfl⟩, HST.out.1, HST.out.2, HF9.out.trans hb5 fun _ hb => hb.elim, fun hw y hy => (HSOFT.out hw y hy).keep hb5 fun _ _ hn => hn⟩
          rw [HPE.out]; exact HES.out
  · go_wp2_with fail
    refine wp_region_held_drew (S := fun wx => Fr W1 wx (fun b => S b ∨ b = g)) (by kernel_rfl) ((Fr.refl W1 _).drew) (fun hS => ?_)
    refine wpAnyH_take (i := 0) (v := ?_) rfl (by kernel_rfl) (by kernel_rfl) (by kernel_rfl) (fun _ _ _ h => h) (Or.inl ⟨by rfl, ?_⟩) hS ?_
    rotate_left
    · (intro wq hSw; go_simp; try with_reducible rfl)
    refine wpAnyH_take (i := 1) (v := ?_) rfl (by kernel_rfl) (by kernel_rfl) (by kernel_rfl) (fun _ _ _ h => h) (Or.inl ⟨by rfl, ?_⟩) hS ?_
    rotate_left
    · (intro wq hSw; go_simp; try with_reducible rfl)
    simp only [List.getElem_toArray, List.getElem_cons_succ, List.getElem_cons_zero, Act.put, List.setIfInBounds_toArray, List.set_cons_succ, List.set_cons_zero]
    refine wpAnyH_take (i := 2) (v := ?_) rfl (by kernel_rfl) (by kernel_rfl) (by kernel_rfl) (fun _ _ _ h => h) (Or.inl ⟨by rfl, ?_⟩) hS ?_
    rotate_left
    · (intro wq hSw; go_simp; try with_reducible rfl)
    simp only [List.getElem_toArray, List.getElem_cons_succ, List.getElem_cons_zero, Act.put, List.setIfInBounds_toArray, List.set_cons_succ, List.set_cons_zero]
    refine wpAnyH_take (i := 3) (v := ?_) rfl (by kernel_rfl) (by kernel_rfl) (by kernel_rfl) (fun _ _ _ h => h) (Or.inl ⟨by rfl, ?_⟩) hS ?_
    rotate_left
    · (intro wq hSw; go_simp; try with_reducible rfl)
    simp only [List.getElem_toArray, List.getElem_cons_succ, List.getElem_cons_zero, Act.put, List.setIfInBounds_toArray, List.set_cons_succ, List.set_cons_zero]
    refine wpAnyH_take (i := 5) (v := ?_) rfl (by kernel_rfl) (by kernel_rfl) (by kernel_rfl) (fun _ _ _ h => h) (Or.inl ⟨by rfl, ?_⟩) hS ?_
    rotate_left
    · (intro wq hSw; go_simp; try with_reducible rfl)
    simp only [List.getElem_toArray, List.getElem_cons_succ, List.getElem_cons_zero, Act.put, List.setIfInBounds_toArray, List.set_cons_succ, List.set_cons_zero]
    refine wpAnyH_take (i := 6) (v := ?_) rfl (by kernel_rfl) (by kernel_rfl) (by kernel_rfl) (fun _ _ _ h => h) (Or.inl ⟨by rfl, ?_⟩) hS ?_
    rotate_left
    · (intro wq hSw; have hq := HCB.out.keep hSw (fun h => h.elim (fun h => by have := HSB.out.1 _ h; have := HB1.out; omega) fun h => HGW.out h.symm); have h0 := hq.cell 0; have h1 := hq.cell 1; have h2 := hq.cell 2; simp only [List.getElem?_toArray, List.getElem?_cons_zero, List.getElem?_cons_succ] at h0 h1 h2; go_simp; try with_reducible rfl)
    simp only [List.getElem_toArray, List.getElem_cons_succ, List.getElem_cons_zero, Act.put, List.setIfInBounds_toArray, List.set_cons_succ, List.set_cons_zero]
    refine wpAnyH_ready (rs := [4, 7]) (by kernel_rfl) (by simp) ?_
    refine AllReadyH.cons rfl (fun K hK => ?_) (AllReadyH.cons rfl (fun K hK => ?_) AllReadyH.nil)
    · have hc := (HBG.out.drew).cell 3
      simp only [pcs, List.getElem?_toArray, List.getElem?_cons_zero, List.getElem?_cons_succ] at hc
      go_simp
      refine hK.out _ _ hS (fun hS => ?_)
      clear hK K hc
      refine wpAnyH_ready (rs := [7]) (by kernel_rfl) (by simp) ?_
      refine AllReadyH.cons rfl (fun K hK => ?_) AllReadyH.nil
      go_simp
      refine hK.out _ _ (hS.alloc _) (fun hS => ?_)
      clear hK K
      have hqb := Blk.new W1.drew 58 #[.bool true, .int .u32 0, .slice A1 m c1]
      have hownQ : OwC (W1.drew.alloc (.cells #[.bool true, .int .u32 0, .slice A1 m c1] 58)) S T1 (.slice pA n pc) n l := HOW.out.drew.alloc _
      have hxiQ : CV.In (W1.drew.alloc (.cells #[.bool true, .int .u32 0, .slice A1 m c1] 58)) T1 ⟨true, 0, A1, m, c1, d⟩ := HXI.out.keep ((Fr.refl W1 No).drew.alloc _) fun _ _ hn => hn
      have HIA := Lib.hid (insert_all (W1.drew.alloc (.cells #[.bool true, .int .u32 0, .slice A1 m c1] 58)) S T1 pA n pc l hownQ (by omega) i HIN.out W1.heap.size ⟨true, 0, A1, m, c1, d⟩ hqb (fun h => by have := HSB.out.1 _ h; have := HB1.out; have := HZ1.out; omega) hxiQ)
      clear hqb hownQ hxiQ
      refine wpAnyH_ready (rs := [8]) (by kernel_rfl) (by simp) ?_
      refine AllReadyH.cons rfl (fun K hK => ?_) AllReadyH.nil
      go_simp
      refine HIA.out.mono ?_
      rintro e w3 ⟨v3, rfl, hown3, hf3⟩
      have hf3S : Fr W1 w3 (fun b => S b ∨ b = g) := ((Fr.refl W1 _).drew.alloc _).trans hf3 fun b hb => Or.inl (Or.inl (HO.out.o.2.2.1 b hb))
      refine hK.out _ _ hf3S (fun hS => ?_)
      clear hK K
      rw [← HQN.out] at hown3
      obtain ⟨A3, c3, rfl, hnc3, _, _, _⟩ := hown3.reads (by have := HQN.out; omega)
      have HSZ3 := Lib.hid (show W1.heap.size + 1 ≤ w3.heap.size by have := hf3.size; simpa using this)
      have hf3' : Fr W1 w3 (fun b => Value.ownBlock (.slice pA n pc) = some b) := ((Fr.refl W1 _).drew.alloc _).trans hf3 fun b hb => Or.inl hb
      have hg3 := HBG.out.keep hf3' fun h => HG.out.1 (HO.out.o.2.2.1 g h)
      have n3 := hg3.cell 3
      have z3 := hg3.frozen 3
      simp only [pcs, List.getElem?_toArray, List.getElem?_cons_zero, List.getElem?_cons_succ] at n3
      have HO3 := Lib.hid hown3
      have HF3 := Lib.hid hf3'
      have HG3 := Lib.hid hg3
      clear hown3 hf3 hf3S hf3' hg3
      refine wpAnyH_take (i := 9) (v := ?_) rfl (by kernel_rfl) (by kernel_rfl) (by kernel_rfl) (fun _ _ _ h => h) (Or.inl ⟨by rfl, ?_⟩) hS ?_
      rotate_left
      · (intro wq hSw; go_simp; try with_reducible rfl)
      simp only [List.getElem_toArray, List.getElem_cons_succ, List.getElem_cons_zero, Act.put, List.setIfInBounds_toArray, List.set_cons_succ, List.set_cons_zero]
      refine wpAnyH_take (i := 10) (v := ?_) rfl (by kernel_rfl) (by kernel_rfl) (by kernel_rfl) (fun _ _ _ h => h) (Or.inl ⟨by rfl, ?_⟩) hS ?_
      rotate_left
      · (intro wq hSw; go_simp; try with_reducible rfl)
      simp only [List.getElem_toArray, List.getElem_cons_succ, List.getElem_cons_zero, Act.put, List.setIfInBounds_toArray, List.set_cons_succ, List.set_cons_zero]
      refine wpAnyH_ready (rs := [11]) (by kernel_rfl) (by simp) ?_
      refine AllReadyH.cons rfl (fun K hK => ?_) AllReadyH.nil
      go_simp
      refine hK.out _ _ ?_ (fun hS => ?_)
      · exact hS.setCell (p := ⟨g, 3, none⟩) (Or.inl (Or.inr rfl)) _
      clear hK K
      refine wpAnyH_done (by kernel_rfl) ?_ _
      obtain ⟨W4, hW4⟩ : ∃ W4, w3.setCell ⟨g, 3, none⟩ (.slice A3 q c3) = W4 := ⟨_, rfl⟩
      have hb4 : Blk W4 g 26 (pcs ⟨pk, ps, px, A3, q, c3, l.take i ++ ⟨true, 0, A1, m, c1, d⟩ :: l.drop i⟩) := by rw [← hW4]; exact HG3.out.set_ 3 _
      have hf4 : Fr w3 W4 (fun b => b = g) := by rw [← hW4]; exact fr_set (Fr.refl _ _) _ _
      have HB4 := Lib.hid hb4
      have HF4 := Lib.hid hf4
      clear hb4 hf4 n3 z3 hS
      have hsz : W1.heap.size + 1 ≤ w3.heap.size := HSZ3.out
      obtain ⟨L, hL⟩ : ∃ L, L = l.take i ++ (⟨true, 0, A1, m, c1, d⟩ : CV) :: l.drop i := ⟨_, rfl⟩
      rw [← hL] at HO3 HB4
      have hes : L.map CV.e = (l.map CV.e).take i ++ ⟨true, 0, d⟩ :: (l.map CV.e).drop i := by rw [hL]; simp [CV.e, List.map_take, List.map_drop]
      have hll : L.length = q := by rw [hL, HQN.out]; simp; have := HML2.out.2.1; have := HIN.out; omega
      obtain ⟨S3, hS3⟩ : ∃ S3 : Nat → Prop, S3 = fun b => S b ∨ (W1.drew.alloc (.cells #[.bool true, .int .u32 0, .slice A1 m c1] 58)).heap.size ≤ b := ⟨_, rfl⟩
      obtain ⟨T3, hT3⟩ : ∃ T3 : Nat → Prop, T3 = fun b => T1 b ∧ b < (W1.drew.alloc (.cells #[.bool true, .int .u32 0, .slice A1 m c1] 58)).heap.size := ⟨_, rfl⟩
      have hsw : w.heap.size ≤ (W1.drew.alloc (.cells #[.bool true, .int .u32 0, .slice A1 m c1] 58)).heap.size ∧ w1.heap.size ≤ (W1.drew.alloc (.cells #[.bool true, .int .u32 0, .slice A1 m c1] 58)).heap.size := by
        have := HB1.out
        have := HZ1.out
        have h9 : (W1.drew.alloc (.cells #[.bool true, .int .u32 0, .slice A1 m c1] 58)).heap.size = W1.heap.size + 1 := by simp
        omega
      have ho3 : OwC w3 S3 T3 (.slice A3 q c3) q L := by rw [hS3, hT3]; exact HO3.out
      have hgS : ∀ b, S3 b → ¬ b = g := fun b hb e => by
        rw [hS3] at hb
        rcases hb with hb | hb
        · exact HG.out.1 (e ▸ hb)
        · have := HML2.out.2.2; omega
      have hgT : ∀ b, T3 b → ¬ b = g := fun b hb e => by
        rw [hT3, HT1.out] at hb
        rcases hb.1 with hb | hb
        · exact HG.out.2 (e ▸ hb)
        · have := HML2.out.2.2; omega
      have hpo4 : PO W4 S3 T3 ⟨pk, ps, px, A3, q, c3, L⟩ := ⟨ho3.keep HF4.out hgS hgT, by show q ≤ _; omega, HO.out.k1, HO.out.k2, HO.out.s, HO.out.x⟩
      have hown : ∀ b, Value.ownBlock (.slice pA n pc) = some b → S b ∧ ¬ T b := fun b hb => ⟨HO.out.o.2.2.1 b hb, HO.out.o.2.2.2 b hb⟩
      have hf9 : Fr w W4 (fun b => b = g ∨ S b) := ((HF1.out.mono (T := fun b => b = g ∨ S b) fun _ _ h => h.elim).trans HF3.out fun b hb => Or.inl (Or.inr (hown b hb).1)).trans HF4.out fun b hb => Or.inl (Or.inl hb)
      have hST : (∀ b, S3 b → S b ∨ w.heap.size ≤ b) ∧ (∀ b, T3 b → T b ∨ w.heap.size ≤ b) := ⟨fun b hb => by
          rw [hS3] at hb
          rcases hb with hb | hb
          · exact Or.inl hb
          · exact Or.inr (by omega), fun b hb => by
          rw [hT3, HT1.out] at hb
          rcases hb.1 with hb | hb
          · exact Or.inl hb
          · exact Or.inr hb.1⟩
      have hsoft : (∀ x ∈ l, WB w T x.A x.m) → ∀ x ∈ L, WB W4 T3 x.A x.m := by
        intro hw y hy
        have hlift : ∀ {U : Nat → Prop} {A' : Option Addr} {m' : Nat}, WB W1 U A' m' → (∀ b, U b → T1 b ∧ b < w1.heap.size ∧ ¬ b = g ∧ ¬ Value.ownBlock (.slice pA n pc) = some b) → WB W4 T3 A' m' := by
          intro U A' m' hwb hU
          refine ((hwb.keep HF3.out fun b hb h => (hU b hb).2.2.2 h).keep HF4.out fun b hb h => (hU b hb).2.2.1 h).mono fun b _ hb => ?_
          rw [hT3]
          exact ⟨(hU b hb).1, by have := (hU b hb).2.1; omega⟩
        rw [hL] at hy
        have hold : ∀ z ∈ l, WB W4 T3 z.A z.m := fun z hz => hlift (((hw z hz).mono (T := fun b => T b ∧ b < w.heap.size) fun b hlt hb => ⟨hb, hlt⟩).keep HF1.out fun _ _ h => h) fun b hb => ⟨by rw [HT1.out]; exact Or.inl hb.1, by have := HB1.out; omega, fun e => HG.out.2 (e ▸ hb.1), fun h => (hown b h).2 hb.1⟩
        rcases List.mem_append.1 hy with hy | hy
        · exact hold y (List.mem_of_mem_take hy)
        · rcases List.mem_cons.1 hy with rfl | hy
          · exact hlift HWB1.out fun b hb => ⟨by rw [HT1.out]; exact Or.inr hb, hb.2, fun e => by have := HML2.out.2.2; omega, fun h => by have := HSB.out.1 b (hown b h).1; omega⟩
          · exact hold y (List.mem_of_mem_drop hy)
      have hsmall : ∀ x ∈ L, x.m ≤ 9223372036854 := fun y hy => by
        rw [hL] at hy
        rcases List.mem_append.1 hy with hy | hy
        · have := HML.out y (List.mem_of_mem_take hy); omega
        · rcases List.mem_cons.1 hy with rfl | hy
          · simp only; omega
          · have := HML.out y (List.mem_of_mem_drop hy); omega
      have hsize := size_any ⟨pk, ps, px, A3, q, c3, L⟩ W4 hpo4.In.all hsmall (by show q ≤ 1000; omega)
      obtain ⟨es, hese⟩ : ∃ es, es = (l.map CV.e).take i ++ (⟨true, 0, d⟩ : CE) :: (l.map CV.e).drop i := ⟨_, rfl⟩
      have hpe : (⟨pk, ps, px, A3, q, c3, L⟩ : PV).es = es := by rw [hese]; exact hes
      have hlen : es.length = q := by rw [← hpe, ← hll]; exact List.length_map _
      rw [hpe] at hsize
      obtain ⟨z, hz⟩ : ∃ z, z = psz es := ⟨_, rfl⟩
      rw [← hz] at hsize
      obtain ⟨u0, u1, u2, u3⟩ := pcs_cells HB4.out
      simp only at u0 u1 u2 u3
      have HSIZE := Lib.hid hsize
      have HPO4 := Lib.hid hpo4
      have HF9 := Lib.hid hf9
      have HST := Lib.hid hST
      have HSOFT := Lib.hid hsoft
      have HPE := Lib.hid hpe
      have HZ := Lib.hid hz
      have HLEN := Lib.hid hlen
      have HES := Lib.hid hese
      clear hsize hpo4 hf9 hST hsoft hpe hz hlen hese hes hll hL hS3 hT3 hsw ho3 hgS hgT hown hsmall hsz y0 y1 y2 y3 c0 c1' c2
      simp only [PV.agg] at HSIZE
      by_cases h60 : 60 < q
      · have e1 : decide ((q : Int) > 60) = true := decide_eq_true (by omega)
        have e2 : decide (60 < q) = true := decide_eq_true h60
        have HH := Lib.hid h60
        clear h60
        go_wp2_with fail
        go_ret
        unfold PutO
        have hfull : full ((l.map CV.e).take i ++ (⟨true, 0, d⟩ : CE) :: (l.map CV.e).drop i) = true := by
          rw [← HES.out]
          unfold full
          rw [HLEN.out, decide_eq_true HH.out]
          rfl
        exact if_pos hfull ▸ ⟨rfl, HF9.out⟩
      · have e1 : decide ((q : Int) > 60) = false := decide_eq_false (by omega)
        have e2 : decide (60 < q) = false := decide_eq_false h60
        have HH := Lib.hid h60
        clear h60
        go_wp2_with fail
        with_reducible refine HSIZE.out.mono ?_
        rintro e w5 ⟨rfl, hb5⟩
        have HB5 := Lib.hid hb5
        clear hb5
        by_cases h512 : 512 < z
        · have e3 : decide ((z : Int) > 512) = true := decide_eq_true (by omega)
          have e4 : decide (512 < z) = true := decide_eq_true h512
          have HH5 := Lib.hid h512
          clear h512
          go_wp2_with fail
          go_ret
          unfold PutO
          have hfull : full ((l.map CV.e).take i ++ (⟨true, 0, d⟩ : CE) :: (l.map CV.e).drop i) = true := by
            rw [← HES.out]
            unfold full
            rw [← HZ.out, decide_eq_true HH5.out, Bool.or_true]
          exact if_pos hfull ▸ ⟨rfl, HF9.out.trans (Fr.of_below HB5.out No) fun _ hb => hb.elim⟩
        · have e3 : decide ((z : Int) > 512) = false := decide_eq_false (by omega)
          have e4 : decide (512 < z) = false := decide_eq_false h512
          have HH5 := Lib.hid h512
          clear h512
          go_wp2_with fail
          go_ret
          unfold PutO
          have hfull : full ((l.map CV.e).take i ++ (⟨true, 0, d⟩ : CE) :: (l.map CV.e).drop i) = false := by
            rw [← HES.out]
            unfold full
            rw [← HZ.out, HLEN.out, decide_eq_false HH5.out, decide_eq_false HH.out]
            rfl
          have hb5 := Fr.of_below HB5.out No
          refine (if_neg (by show ¬ (full ((l.map CV.e).take i ++ (⟨true, 0, d⟩ : CE) :: (l.map CV.e).drop i) = true); rw [hfull]; simp)) ▸ ⟨⟨pk, ps, px, A3, q, c3, L⟩, S3, T3, rfl, HB4.out.keep hb5 fun h => h, HPO4.out.keep hb5 (fun _ _ hn => hn) fun _ _ hn => hn, ?_, ⟨rfl, rfl, rfl⟩, HST.out.1, HST.out.2, HF9.out.trans hb5 fun _ hb => hb.elim, fun hw y hy => (HSOFT.out hw y hy).keep hb5 fun _ _ hn => hn⟩
          rw [HPE.out]; exact HES.out
    · go_simp
      refine hK.out _ _ (hS.alloc _) (fun hS => ?_)
      clear hK K
      refine wpAnyH_ready (rs := [4]) (by kernel_rfl) (by simp) ?_
      refine AllReadyH.cons rfl (fun K hK => ?_) AllReadyH.nil
      have hc := ((HBG.out.alloc (.cells #[.bool true, .int .u32 0, .slice A1 m c1] 58)).drew).cell 3
      simp only [pcs, List.getElem?_toArray, List.getElem?_cons_zero, List.getElem?_cons_succ] at hc
      go_simp
      refine hK.out _ _ hS (fun hS => ?_)
      clear hK K hc
      have hqb := Blk.new W1.drew 58 #[.bool true, .int .u32 0, .slice A1 m c1]
      have hownQ : OwC (W1.drew.alloc (.cells #[.bool true, .int .u32 0, .slice A1 m c1] 58)) S T1 (.slice pA n pc) n l := HOW.out.drew.alloc _
      have hxiQ : CV.In (W1.drew.alloc (.cells #[.bool true, .int .u32 0, .slice A1 m c1] 58)) T1 ⟨true, 0, A1, m, c1, d⟩ := HXI.out.keep ((Fr.refl W1 No).drew.alloc _) fun _ _ hn => hn
      have HIA := Lib.hid (insert_all (W1.drew.alloc (.cells #[.bool true, .int .u32 0, .slice A1 m c1] 58)) S T1 pA n pc l hownQ (by omega) i HIN.out W1.heap.size ⟨true, 0, A1, m, c1, d⟩ hqb (fun h => by have := HSB.out.1 _ h; have := HB1.out; have := HZ1.out; omega) hxiQ)
      clear hqb hownQ hxiQ
      refine wpAnyH_ready (rs := [8]) (by kernel_rfl) (by simp) ?_
      refine AllReadyH.cons rfl (fun K hK => ?_) AllReadyH.nil
      go_simp
      refine HIA.out.mono ?_
      rintro e w3 ⟨v3, rfl, hown3, hf3⟩
      have hf3S : Fr W1 w3 (fun b => S b ∨ b = g) := ((Fr.refl W1 _).drew.alloc _).trans hf3 fun b hb => Or.inl (Or.inl (HO.out.o.2.2.1 b hb))
      refine hK.out _ _ hf3S (fun hS => ?_)
      clear hK K
      rw [← HQN.out] at hown3
      obtain ⟨A3, c3, rfl, hnc3, _, _, _⟩ := hown3.reads (by have := HQN.out; omega)
      have HSZ3 := Lib.hid (show W1.heap.size + 1 ≤ w3.heap.size by have := hf3.size; simpa using this)
      have hf3' : Fr W1 w3 (fun b => Value.ownBlock (.slice pA n pc) = some b) := ((Fr.refl W1 _).drew.alloc _).trans hf3 fun b hb => Or.inl hb
      have hg3 := HBG.out.keep hf3' fun h => HG.out.1 (HO.out.o.2.2.1 g h)
      have n3 := hg3.cell 3
      have z3 := hg3.frozen 3
      simp only [pcs, List.getElem?_toArray, List.getElem?_cons_zero, List.getElem?_cons_succ] at n3
      have HO3 := Lib.hid hown3
      have HF3 := Lib.hid hf3'
      have HG3 := Lib.hid hg3
      clear hown3 hf3 hf3S hf3' hg3
      refine wpAnyH_take (i := 9) (v := ?_) rfl (by kernel_rfl) (by kernel_rfl) (by kernel_rfl) (fun _ _ _ h => h) (Or.inl ⟨by rfl, ?_⟩) hS ?_
      rotate_left
      · (intro wq hSw; go_simp; try with_reducible rfl)
      simp only [List.getElem_toArray, List.getElem_cons_succ, List.getElem_cons_zero, Act.put, List.setIfInBounds_toArray, List.set_cons_succ, List.set_cons_zero]
      refine wpAnyH_take (i := 10) (v := ?_) rfl (by kernel_rfl) (by kernel_rfl) (by kernel_rfl) (fun _ _ _ h => h) (Or.inl ⟨by rfl, ?_⟩) hS ?_
      rotate_left
      · (intro wq hSw; go_simp; try with_reducible rfl)
      simp only [List.getElem_toArray, List.getElem_cons_succ, List.getElem_cons_zero, Act.put, List.setIfInBounds_toArray, List.set_cons_succ, List.set_cons_zero]
      refine wpAnyH_ready (rs := [11]) (by kernel_rfl) (by simp) ?_
      refine AllReadyH.cons rfl (fun K hK => ?_) AllReadyH.nil
      go_simp
      refine hK.out _ _ ?_ (fun hS => ?_)
      · exact hS.setCell (p := ⟨g, 3, none⟩) (Or.inl (Or.inr rfl)) _
      clear hK K
      refine wpAnyH_done (by kernel_rfl) ?_ _
      obtain ⟨W4, hW4⟩ : ∃ W4, w3.setCell ⟨g, 3, none⟩ (.slice A3 q c3) = W4 := ⟨_, rfl⟩
      have hb4 : Blk W4 g 26 (pcs ⟨pk, ps, px, A3, q, c3, l.take i ++ ⟨true, 0, A1, m, c1, d⟩ :: l.drop i⟩) := by rw [← hW4]; exact HG3.out.set_ 3 _
      have hf4 : Fr w3 W4 (fun b => b = g) := by rw [← hW4]; exact fr_set (Fr.refl _ _) _ _
      have HB4 := Lib.hid hb4
      have HF4 := Lib.hid hf4
      clear hb4 hf4 n3 z3 hS
      have hsz : W1.heap.size + 1 ≤ w3.heap.size := HSZ3.out
      obtain ⟨L, hL⟩ : ∃ L, L = l.take i ++ (⟨true, 0, A1, m, c1, d⟩ : CV) :: l.drop i := ⟨_, rfl⟩
      rw [← hL] at HO3 HB4
      have hes : L.map CV.e = (l.map CV.e).take i ++ ⟨true, 0, d⟩ :: (l.map CV.e).drop i := by rw [hL]; simp [CV.e, List.map_take, List.map_drop]
      have hll : L.length = q := by rw [hL, HQN.out]; simp; have := HML2.out.2.1; have := HIN.out; omega
      obtain ⟨S3, hS3⟩ : ∃ S3 : Nat → Prop, S3 = fun b => S b ∨ (W1.drew.alloc (.cells #[.bool true, .int .u32 0, .slice A1 m c1] 58)).heap.size ≤ b := ⟨_, rfl⟩
      obtain ⟨T3, hT3⟩ : ∃ T3 : Nat → Prop, T3 = fun b => T1 b ∧ b < (W1.drew.alloc (.cells #[.bool true, .int .u32 0, .slice A1 m c1] 58)).heap.size := ⟨_, rfl⟩
      have hsw : w.heap.size ≤ (W1.drew.alloc (.cells #[.bool true, .int .u32 0, .slice A1 m c1] 58)).heap.size ∧ w1.heap.size ≤ (W1.drew.alloc (.cells #[.bool true, .int .u32 0, .slice A1 m c1] 58)).heap.size := by
        have := HB1.out
        have := HZ1.out
        have h9 : (W1.drew.alloc (.cells #[.bool true, .int .u32 0, .slice A1 m c1] 58)).heap.size = W1.heap.size + 1 := by simp
        omega
      have ho3 : OwC w3 S3 T3 (.slice A3 q c3) q L := by rw [hS3, hT3]; exact HO3.out
      have hgS : ∀ b, S3 b → ¬ b = g := fun b hb e => by
        rw [hS3] at hb
        rcases hb with hb | hb
        · exact HG.out.1 (e ▸ hb)
        · have := HML2.out.2.2; omega
      have hgT : ∀ b, T3 b → ¬ b = g := fun b hb e => by
        rw [hT3, HT1.out] at hb
        rcases hb.1 with hb | hb
        · exact HG.out.2 (e ▸ hb)
        · have := HML2.out.2.2; omega
      have hpo4 : PO W4 S3 T3 ⟨pk, ps, px, A3, q, c3, L⟩ := ⟨ho3.keep HF4.out hgS hgT, by show q ≤ _; omega, HO.out.k1, HO.out.k2, HO.out.s, HO.out.x⟩
      have hown : ∀ b, Value.ownBlock (.slice pA n pc) = some b → S b ∧ ¬ T b := fun b hb => ⟨HO.out.o.2.2.1 b hb, HO.out.o.2.2.2 b hb⟩
      have hf9 : Fr w W4 (fun b => b = g ∨ S b) := ((HF1.out.mono (T := fun b => b = g ∨ S b) fun _ _ h => h.elim).trans HF3.out fun b hb => Or.inl (Or.inr (hown b hb).1)).trans HF4.out fun b hb => Or.inl (Or.inl hb)
      have hST : (∀ b, S3 b → S b ∨ w.heap.size ≤ b) ∧ (∀ b, T3 b → T b ∨ w.heap.size ≤ b) := ⟨fun b hb => by
          rw [hS3] at hb
          rcases hb with hb | hb
          · exact Or.inl hb
          · exact Or.inr (by omega), fun b hb => by
          rw [hT3, HT1.out] at hb
          rcases hb.1 with hb | hb
          · exact Or.inl hb
          · exact Or.inr hb.1⟩
      have hsoft : (∀ x ∈ l, WB w T x.A x.m) → ∀ x ∈ L, WB W4 T3 x.A x.m := by
        intro hw y hy
        have hlift : ∀ {U : Nat → Prop} {A' : Option Addr} {m' : Nat}, WB W1 U A' m' → (∀ b, U b → T1 b ∧ b < w1.heap.size ∧ ¬ b = g ∧ ¬ Value.ownBlock (.slice pA n pc) = some b) → WB W4 T3 A' m' := by
          intro U A' m' hwb hU
          refine ((hwb.keep HF3.out fun b hb h => (hU b hb).2.2.2 h).keep HF4.out fun b hb h => (hU b hb).2.2.1 h).mono fun b _ hb => ?_
          rw [hT3]
          exact ⟨(hU b hb).1, by have := (hU b hb).2.1; omega⟩
        rw [hL] at hy
        have hold : ∀ z ∈ l, WB W4 T3 z.A z.m := fun z hz => hlift (((hw z hz).mono (T := fun b => T b ∧ b < w.heap.size) fun b hlt hb => ⟨hb, hlt⟩).keep HF1.out fun _ _ h => h) fun b hb => ⟨by rw [HT1.out]; exact Or.inl hb.1, by have := HB1.out; omega, fun e => HG.out.2 (e ▸ hb.1), fun h => (hown b h).2 hb.1⟩
        rcases List.mem_append.1 hy with hy | hy
        · exact hold y (List.mem_of_mem_take hy)
        · rcases List.mem_cons.1 hy with rfl | hy
          · exact hlift HWB1.out fun b hb => ⟨by rw [HT1.out]; exact Or.inr hb, hb.2, fun e => by have := HML2.out.2.2; omega, fun h => by have := HSB.out.1 b (hown b h).1; omega⟩
          · exact hold y (List.mem_of_mem_drop hy)
      have hsmall : ∀ x ∈ L, x.m ≤ 9223372036854 := fun y hy => by
        rw [hL] at hy
        rcases List.mem_append.1 hy with hy | hy
        · have := HML.out y (List.mem_of_mem_take hy); omega
        · rcases List.mem_cons.1 hy with rfl | hy
          · simp only; omega
          · have := HML.out y (List.mem_of_mem_drop hy); omega
      have hsize := size_any ⟨pk, ps, px, A3, q, c3, L⟩ W4 hpo4.In.all hsmall (by show q ≤ 1000; omega)
      obtain ⟨es, hese⟩ : ∃ es, es = (l.map CV.e).take i ++ (⟨true, 0, d⟩ : CE) :: (l.map CV.e).drop i := ⟨_, rfl⟩
      have hpe : (⟨pk, ps, px, A3, q, c3, L⟩ : PV).es = es := by rw [hese]; exact hes
      have hlen : es.length = q := by rw [← hpe, ← hll]; exact List.length_map _
      rw [hpe] at hsize
      obtain ⟨z, hz⟩ : ∃ z, z = psz es := ⟨_, rfl⟩
      rw [← hz] at hsize
      obtain ⟨u0, u1, u2, u3⟩ := pcs_cells HB4.out
      simp only at u0 u1 u2 u3
      have HSIZE := Lib.hid hsize
      have HPO4 := Lib.hid hpo4
      have HF9 := Lib.hid hf9
      have HST := Lib.hid hST
      have HSOFT := Lib.hid hsoft
      have HPE := Lib.hid hpe
      have HZ := Lib.hid hz
      have HLEN := Lib.hid hlen
      have HES := Lib.hid hese
      clear hsize hpo4 hf9 hST hsoft hpe hz hlen hese hes hll hL hS3 hT3 hsw ho3 hgS hgT hown hsmall hsz y0 y1 y2 y3 c0 c1' c2
      simp only [PV.agg] at HSIZE
      by_cases h60 : 60 < q
      · have e1 : decide ((q : Int) > 60) = true := decide_eq_true (by omega)
        have e2 : decide (60 < q) = true := decide_eq_true h60
        have HH := Lib.hid h60
        clear h60
        go_wp2_with fail
        go_ret
        unfold PutO
        have hfull : full ((l.map CV.e).take i ++ (⟨true, 0, d⟩ : CE) :: (l.map CV.e).drop i) = true := by
          rw [← HES.out]
          unfold full
          rw [HLEN.out, decide_eq_true HH.out]
          rfl
        exact if_pos hfull ▸ ⟨rfl, HF9.out⟩
      · have e1 : decide ((q : Int) > 60) = false := decide_eq_false (by omega)
        have e2 : decide (60 < q) = false := decide_eq_false h60
        have HH := Lib.hid h60
        clear h60
        go_wp2_with fail
        with_reducible refine HSIZE.out.mono ?_
        rintro e w5 ⟨rfl, hb5⟩
        have HB5 := Lib.hid hb5
        clear hb5
        by_cases h512 : 512 < z
        · have e3 : decide ((z : Int) > 512) = true := decide_eq_true (by omega)
          have e4 : decide (512 < z) = true := decide_eq_true h512
          have HH5 := Lib.hid h512
          clear h512
          go_wp2_with fail
          go_ret
          unfold PutO
          have hfull : full ((l.map CV.e).take i ++ (⟨true, 0, d⟩ : CE) :: (l.map CV.e).drop i) = true := by
            rw [← HES.out]
            unfold full
            rw [← HZ.out, decide_eq_true HH5.out, Bool.or_true]
          exact if_pos hfull ▸ ⟨rfl, HF9.out.trans (Fr.of_below HB5.out No) fun _ hb => hb.elim⟩
        · have e3 : decide ((z : Int) > 512) = false := decide_eq_false (by omega)
          have e4 : decide (512 < z) = false := decide_eq_false h512
          have HH5 := Lib.hid h512
          clear h512
          go_wp2_with fail
          go_ret
          unfold PutO
          have hfull : full ((l.map CV.e).take i ++ (⟨true, 0, d⟩ : CE) :: (l.map CV.e).drop i) = false := by
            rw [← HES.out]
            unfold full
            rw [← HZ.out, HLEN.out, decide_eq_false HH5.out, decide_eq_false HH.out]
            rfl
          have hb5 := Fr.of_below HB5.out No
          refine (if_neg (by show ¬ (full ((l.map CV.e).take i ++ (⟨true, 0, d⟩ : CE) :: (l.map CV.e).drop i) = true); rw [hfull]; simp)) ▸ ⟨⟨pk, ps, px, A3, q, c3, L⟩, S3, T3, rfl, HB4.out.keep hb5 fun h => h, HPO4.out.keep hb5 (fun _ _ hn => hn) fun _ _ hn => hn, ?_, ⟨rfl, rfl, rfl⟩, HST.out.1, HST.out.2, HF9.out.trans hb5 fun _ hb => hb.elim, fun hw y hy => (HSOFT.out hw y hy).keep hb5 fun _ _ hn => hn⟩
          rw [HPE.out]; exact HES.out
end Go.Proofs.Ytajmpoanmdgmpaa
