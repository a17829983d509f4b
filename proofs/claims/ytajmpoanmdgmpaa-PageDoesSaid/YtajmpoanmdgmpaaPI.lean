/-
  THE WALKS OF slices.Clone, copied.
-/
import Derived.Test.YtajmpoanmdgmpaaPF
import Derived.OrdersHeld
import Derived.Deep.RegionHeld
import Derived.Deep.Cut
namespace Go.Proofs.Ytajmpoanmdgmpaa
open Go.RowKit

theorem set_self {l : List CE} {k : Nat} {x : CE} (h : l[k]? = some x) : l.set k x = l := by
  induction l generalizing k with
  | nil => simp at h
  | cons y r ih =>
    cases k with
    | zero => simp at h; subst h; rfl
    | succ k => simp at h; rw [List.set_cons_succ, ih h]
theorem ccs_set (l : List CV) : ∀ (k : Nat) (x : CV) (A : Option Addr) (m c : Nat) (d : List Nat), l[k]? = some x → (ccs l).set (k * 3 + 2) (.slice A m c) = ccs (l.set k ⟨x.u, x.k, A, m, c, d⟩) := by
  induction l with
  | nil => intro k x A m c d h; simp at h
  | cons v r ih =>
    intro k x A m c d h
    cases k with
    | zero => simp at h; subst h; rfl
    | succ k =>
      simp at h
      have := ih k x A m c d h
      simp only [ccs, show (k + 1) * 3 + 2 = (k * 3 + 2) + 1 + 1 + 1 by omega, List.set_cons_succ, this]
set_option maxRecDepth 100000 in
/-- the bytes of one cell of an own row are others -/
theorem OwC.set2 {w : World} {S T T' : Nat → Prop} {v : Value} {n : Nat} {l : List CV} (h : OwC w S T v n l) {k : Nat} {x : CV} (hx : l[k]? = some x) :
    ∃ g cap, v = .slice (some ⟨g, 0, none⟩) n cap ∧ S g ∧ g < w.heap.size ∧ w.cell? ⟨g, k * 3, none⟩ = some (.bool x.u) ∧ w.cell? ⟨g, k * 3 + 1, none⟩ = some (.int .u32 (x.k : Int)) ∧ w.cell? ⟨g, k * 3 + 2, none⟩ = some (.slice x.A x.m x.c) ∧ w.frozen? ⟨g, k * 3 + 2, none⟩ = false ∧ x.In w T ∧ ¬ T g ∧
    ∀ (A : Option Addr) (m c : Nat) (d : List Nat), CV.In w T' ⟨x.u, x.k, A, m, c, d⟩ → (∀ b, b < w.heap.size → T b → T' b) → ¬ T' g → OwC (w.setCell ⟨g, k * 3 + 2, none⟩ (.slice A m c)) S T' v n (l.set k ⟨x.u, x.k, A, m, c, d⟩) := by
  obtain ⟨⟨h1, h2⟩, h3, h4, h5⟩ := h
  have hk : k < l.length := by
    rcases Nat.lt_or_ge k l.length with h' | h'
    · exact h'
    · rw [List.getElem?_eq_none h'] at hx; cases hx
  rw [ccs_len] at h1
  rcases h2 with ⟨rfl, h0⟩ | ⟨g, cap, cur, rfl, hg0, hh, hc, hm, hcur, htake⟩
  · omega
  · have hgl := Blk.lt hh
    have key : ∀ j u, j < n * 3 → (ccs l)[j]? = some u → w.cell? ⟨g, j, none⟩ = some u := by
      intro j u hj hu
      rw [Blk.cell hh j]
      rw [← htake, List.getElem?_take_of_lt hj] at hu
      simpa using hu
    obtain ⟨a, b, c⟩ := ccs_at l k x hx
    refine ⟨g, cap, rfl, h4 g rfl, hgl, key _ _ (by omega) a, key _ _ (by omega) b, key _ _ (by omega) c, Blk.frozen hh _, h3 x (List.mem_of_getElem? hx), h5 g rfl, fun A m c d hin hT hn => ⟨⟨?_, Or.inr ⟨g, cap, cur.setIfInBounds (k * 3 + 2) (.slice A m c), rfl, hg0, Blk.set_ hh _ _, hc, hm, by simpa using hcur, ?_⟩⟩, fun y hy => ?_, h4, fun q hq => ?_⟩⟩
    · rw [ccs_len, List.length_set]; exact h1
    · have hl : cur.toList.take (n * 3) = ccs l := htake
      rw [Array.toList_setIfInBounds, List.take_set, hl, ccs_set l k x A m c d hx]
    · have hfr : Fr w (w.setCell ⟨g, k * 3 + 2, none⟩ (.slice A m c)) (fun b => b = g) := (Fr.refl w (fun b => b = g)).setCell (p := ⟨g, k * 3 + 2, none⟩) (Or.inl rfl) _
      have hyi : y.In w T' := by
        rcases List.mem_or_eq_of_mem_set hy with hy | rfl
        · exact (h3 y hy).mono hT
        · exact hin
      exact hyi.keep hfr fun b hb e => hn (e ▸ hb)
    · have : q = g := by simp [Value.ownBlock] at hq; exact hq.symm
      rw [this]; exact hn
set_option maxRecDepth 100000 in
theorem cloneC_any (T : Nat → Prop) (A : Option Addr) (n c : Nat) (l : List CV) (w : World) (h : CR w All T A n l) (hn : n ≤ 1000) :
    Calls Try.prog 82 #[.slice A n c] w fun e w' => ∃ v, e = .returned v ∧ OwC w' (fun b => w.heap.size ≤ b) (fun b => T b ∧ b < w.heap.size) v n l ∧ Below w.heap.size w w' := by
  rcases A with _ | ad
  · have h0 : n = 0 := by
      rcases Nat.eq_zero_or_pos n with h0 | h0
      · exact h0
      · obtain ⟨_, _, e, _⟩ := h.2.2.2 h0
        cases e
    subst h0
    have hk : l = [] := List.eq_nil_of_length_eq_zero h.1
    subst hk
    clear h
    have he := fun W : World => Lib.run_eql_slice_nil (P := Try.prog) W 24 58 none 0 c 0 0 Try.underlying24
    go_enter Try.func82, Try.ntmps82
    go_wp2
    go_ret
    exact ⟨_, rfl, OwC.nil_ _ _ _, Below.refl _ _⟩
  · have he := fun W : World => Lib.run_eql_slice_nil (P := Try.prog) W 24 58 (some ad) n c 0 0 Try.underlying24
    have hr := (h.mono (S' := All) (T' := fun b => T b ∧ b < w.heap.size) (fun _ _ _ => trivial) fun b hb hT => ⟨hT, hb⟩).below ((Below.refl w.heap.size w).alloc (Nat.le_refl _) (.cells #[] 58))
    have HR := Lib.hid hr
    have HO := Lib.hid (OwC.made w (fun b => w.heap.size ≤ b) (fun b => T b ∧ b < w.heap.size) (Nat.le_refl _) fun h => Nat.lt_irrefl _ h.2)
    have HB := Lib.hid ((Below.refl w.heap.size w).alloc (Nat.le_refl _) (.cells #[] 58))
    clear h hr
    go_enter Try.func82, Try.ntmps82
    go_wp2_with (at_builtin; go_must (refine wpList_appC rfl (.tmp 5) (.tmp 6) rfl _ 0 [] rfl HO.out (some ad) n c l rfl HR.out (by omega) ?_); intro v1 w2 hown hgrow; have HS := Lib.hid hown; have HG := Lib.hid hgrow; clear hown hgrow)
    go_ret
    refine ⟨_, rfl, ?_, ?_⟩
    · have h1 := HS.out
      rw [Nat.zero_add, List.nil_append] at h1
      exact h1.mono (fun b _ hb => hb.elim id fun hb => by simp at hb; omega) (fun b _ hb => hb.1) fun k hk hb => h1.2.2.2 k hk ⟨hb, by simp; omega⟩
    · exact (((Fr.refl w No).alloc _).grown HG.out (fun q (hq : Value.ownBlock (.slice (some ⟨w.heap.size, 0, none⟩) 0 0) = some q) => Or.inr (by simp [Value.ownBlock] at hq; omega))).no_below
/-- what copied goes on with: the first k cells have bytes of their own -/
structure CO (w0 wr : World) (l : List CV) (n k : Nat) (v : Value) (S T Tf : Nat → Prop) (lk : List CV) : Prop where
  o : OwC wr S T v n lk
  e : lk.map CV.e = l.map CV.e
  own : ∀ i x, i < k → lk[i]? = some x → x.In wr Tf
  s0 : ∀ b, S b → w0.heap.size ≤ b
  t0 : ∀ b, Tf b → w0.heap.size ≤ b
  tt : ∀ b, Tf b → T b
set_option maxHeartbeats 2000000 in
set_option maxRecDepth 100000 in
theorem copied_any (p : PV) (w : World) (h : p.In w All All) (hf : Few p) : Calls Try.prog 60 #[p.agg] w fun e w' => ∃ p' S T, e = .returned p'.agg ∧ PO w' S T p' ∧ (∀ b, S b → w.heap.size ≤ b) ∧ (∀ b, T b → w.heap.size ≤ b) ∧ p'.es = p.es ∧ p'.k = p.k ∧ p'.s = p.s ∧ p'.x = p.x ∧ p'.n = p.n ∧ Below w.heap.size w w' := by
  obtain ⟨W1, hW1, hBW1, hbx1, hsz1⟩ := box_page w p
  obtain ⟨W, hW⟩ : ∃ W, W1.alloc (.cells #[.int .i64 0, .int .u64 0, .int .u32 0, .slice none 0 0] 26) = W := ⟨_, rfl⟩
  have hBW : Below w.heap.size w W := by rw [← hW]; exact hBW1.alloc hBW1.size _
  have hbx : Blk W w.heap.size 26 (pcs p) := by rw [← hW]; exact hbx1.alloc _
  have hbr : Blk W W1.heap.size 26 #[.int .i64 0, .int .u64 0, .int .u32 0, .slice none 0 0] := by rw [← hW]; exact Blk.new W1 26 _
  have hsz : W.heap.size = w.heap.size + 2 := by rw [← hW]; simp [hsz1]
  obtain ⟨y0, y1, y2, y3⟩ := pcs_cells hbx
  have HP := Lib.hid (h.below hBW)
  have HBW := Lib.hid hBW
  have HBX := Lib.hid hbx
  have HBR := Lib.hid hbr
  have HSZ := Lib.hid hsz
  have HSZ1 := Lib.hid hsz1
  have HK := Lib.hid (show (-9223372036854775808 ≤ p.k ∧ p.k ≤ 9223372036854775807) ∧ p.s < 18446744073709551616 ∧ p.x < 4294967296 from ⟨⟨h.k1, h.k2⟩, h.s, h.x⟩)
  obtain ⟨pk, ps, px, A, n, c, l⟩ := p
  have hn3 : n ≤ 300 := hf.n
  have HL : Hid (l.length = n) := h.r.1
  have HFL : Hid (∀ c ∈ l.map CV.e, c.d.length ≤ 2000) := fun c hc => by
    obtain ⟨x, hx, rfl⟩ := List.mem_map.1 hc
    have h1 := hf.m x hx
    have h2 := (h.r.2.1 x hx).len
    show x.d.length ≤ 2000
    omega
  simp only at hW1 y0 y1 y2 y3
  have HCL := Lib.hid (cloneC_any (fun b => b < w.heap.size) A n c l W ((h.mono (S' := All) (T' := fun b => b < w.heap.size) (fun _ _ _ => trivial) fun b hb _ => hb).below hBW).r (by omega))
  clear h hf hBW hbx hsz hBW1 hbx1 hsz1 hbr
  simp only [PV.agg]
  go_enter Try.func60, Try.ntmps60
  go_wp2_with fail
  with_reducible refine HCL.out.mono ?_
  rintro e w2 ⟨v, rfl, hown, hb2⟩
  obtain ⟨vA, vc, rfl, hvc, _, hnz, hcr⟩ := hown.reads (by omega)
  have hbx2 := HBX.out.below hb2 (by have := HSZ.out; omega)
  have hbr2 := HBR.out.below hb2 (by have := HSZ.out; have := HSZ1.out; omega)
  have hfz := hbx2.frozen 3
  have n3 := hbx2.cell 3
  simp only [pcs, List.getElem?_toArray, List.getElem?_cons_zero, List.getElem?_cons_succ] at n3
  obtain ⟨E, hE⟩ : ∃ E, w2.setCell ⟨w.heap.size, 3, none⟩ (.slice vA n vc) = E := ⟨_, rfl⟩
  have hbx3 : Blk E w.heap.size 26 #[.int .i64 pk, .int .u64 (ps : Int), .int .u32 (px : Int), .slice vA n vc] := by rw [← hE]; exact hbx2.set_ 3 _
  have hbr3 : Blk E W1.heap.size 26 #[.int .i64 0, .int .u64 0, .int .u32 0, .slice none 0 0] := by rw [← hE]; exact hbr2.far (by have := HSZ1.out; simp only; omega) _
  have hfE : Fr w2 E (fun b => b = w.heap.size) := by rw [← hE]; exact (Fr.refl w2 (fun b => b = w.heap.size)).setCell (p := ⟨w.heap.size, 3, none⟩) (Or.inl rfl) _
  have hsE : W.heap.size ≤ E.heap.size := Nat.le_trans hb2.size hfE.size
  have hoE : OwC E (fun b => W.heap.size ≤ b) (fun b => b < w.heap.size) (.slice vA n vc) n l :=
    (hown.mono (S' := fun b => W.heap.size ≤ b) (T' := fun b => b < w.heap.size) (fun b _ hb => hb) (fun b _ hb => hb.1) fun k hk hb => by
      have := hown.2.2.1 k hk
      have := HSZ.out
      omega).keep hfE (fun b hb e => by have := HSZ.out; omega) fun b hb e => by omega
  have HOE := Lib.hid hoE
  have HBXE := Lib.hid hbx3
  have HBRE := Lib.hid hbr3
  have HWE := Lib.hid (show Fr W E (fun b => b = w.heap.size) from (Fr.of_below hb2 _).same hfE)
  obtain ⟨e0, e1, e2, e3⟩ := pcs_cells (p := ⟨pk, ps, px, vA, n, vc, l⟩) hbx3
  simp only at e0 e1 e2 e3
  clear hown hb2 hbx2 hbr2 hbx3 hbr3 hfE hsE hoE hcr hnz hvc
  go_wp2_with fail
  go_loopw [11] (fun i wr => ∃ (k : Nat) (T Tf : Nat → Prop) (lk : List CV), k ≤ n ∧ i = .int .i64 (k : Int) ∧ CO W wr l n k (.slice vA n vc) (fun b => W.heap.size ≤ b) T Tf lk ∧ Blk wr w.heap.size 26 #[.int .i64 pk, .int .u64 (ps : Int), .int .u32 (px : Int), .slice vA n vc] ∧ Blk wr W1.heap.size 26 #[.int .i64 0, .int .u64 0, .int .u32 0, .slice none 0 0] ∧ Fr W wr (fun b => b = w.heap.size)) (fun i _ => n - (intOf i).toNat)
  case atStart => exact ⟨0, _, No, l, by omega, rfl, ⟨HOE.out, rfl, fun i x hi => by omega, fun b hb => hb, fun b hb => hb.elim, fun b hb => hb.elim⟩, HBXE.out, HBRE.out, HWE.out⟩
  case round =>
    obtain ⟨k, T, Tf, lk, hk, rfl, hco, hbx, hbr, hfr⟩ := hrel
    have HC := Lib.hid hco
    have HBXr := Lib.hid hbx
    have HBRr := Lib.hid hbr
    have HFR := Lib.hid hfr
    have hszr := hfr.size
    obtain ⟨y0, y1, y2, y3⟩ := pcs_cells (p := ⟨pk, ps, px, vA, n, vc, l⟩) hbx
    simp only at y0 y1 y2 y3
    have hlk : lk.length = n := hco.o.len
    clear hco hbx hbr hfr
    by_cases hlt : k < n
    · have hx : lk[k]? = some lk[k] := List.getElem?_eq_getElem (by omega)
      obtain ⟨x, hxe⟩ : ∃ x, x = lk[k] := ⟨_, rfl⟩
      rw [← hxe] at hx
      obtain ⟨g, cap, ev, hSg, hgl, b0, b1, b2, bf, hxi, hng, _⟩ := HC.out.o.set2 (T' := T) hx
      injection ev with ev1 ev2 ev3
      subst ev1 ev3
      have HX := Lib.hid hx
      have HXI := Lib.hid hxi
      obtain ⟨u, kk, xA, m, xc, d⟩ := x
      simp only at b0 b1 b2
      have hin : ((k : Int) < (n : Int)) := by omega
      have hkc : IntKind.i64.wrap (k : Int) = (k : Int) := IntWalk.i64_in _ (by omega)
      have hWi : IntKind.i64.wrap ((k : Int) + 1) = ((k + 1 : Nat) : Int) := by rw [IntWalk.i64_in _ (by omega)]; omega
      have hgz : g ≠ w.heap.size ∧ g ≠ W1.heap.size := ⟨by have := HSZ.out; omega, by have := HSZ.out; have := HSZ1.out; omega⟩
      have hgz1 : w.heap.size ≠ g := fun e => hgz.1 e.symm
      have hgz2 : W1.heap.size ≠ g := fun e => hgz.2 e.symm
      clear hx hxe hxi b0 b1
      go_upto_region 5 with fail
      refine wp_region_held_drew (S := fun wx => Fr wr wx (fun b => b = g)) (by kernel_rfl) ((Fr.refl wr _).drew) (fun hS => ?_)
      refine wpAnyH_take (i := 0) (v := ?_) rfl (by kernel_rfl) (by kernel_rfl) (by kernel_rfl) (fun _ _ _ h => h) (Or.inl ⟨by rfl, ?_⟩) hS ?_
      rotate_left
      · (intro wq hSw; go_simp; try with_reducible rfl)
      refine wpAnyH_take (i := 1) (v := ?_) rfl (by kernel_rfl) (by kernel_rfl) (by kernel_rfl) (fun _ _ _ h => h) (Or.inl ⟨by rfl, ?_⟩) hS ?_
      rotate_left
      · (intro wq hSw; have hc := ((HBXr.out.keep hSw (by omega)).cell 3); simp only [List.getElem?_toArray, List.getElem?_cons_zero, List.getElem?_cons_succ] at hc; go_simp; try with_reducible rfl)
      simp only [List.getElem_toArray, List.getElem_cons_succ, List.getElem_cons_zero, Act.put, List.setIfInBounds_toArray, List.set_cons_succ, List.set_cons_zero]
      refine wpAnyH_take (i := 2) (v := ?_) rfl (by kernel_rfl) (by kernel_rfl) (by kernel_rfl) (fun _ _ _ h => h) (Or.inl ⟨by rfl, ?_⟩) hS ?_
      rotate_left
      · (intro wq hSw; go_simp; try with_reducible rfl)
      simp only [List.getElem_toArray, List.getElem_cons_succ, List.getElem_cons_zero, Act.put, List.setIfInBounds_toArray, List.set_cons_succ, List.set_cons_zero]
      refine wpAnyH_take (i := 3) (v := ?_) rfl (by kernel_rfl) (by kernel_rfl) (by kernel_rfl) (fun _ _ _ h => h) (Or.inl ⟨by rfl, ?_⟩) hS ?_
      rotate_left
      · (intro wq hSw; go_simp; try with_reducible rfl)
      simp only [List.getElem_toArray, List.getElem_cons_succ, List.getElem_cons_zero, Act.put, List.setIfInBounds_toArray, List.set_cons_succ, List.set_cons_zero]
      refine wpAnyH_take (i := 4) (v := ?_) rfl (by kernel_rfl) (by kernel_rfl) (by kernel_rfl) (fun _ _ _ h => h) (Or.inl ⟨by rfl, ?_⟩) hS ?_
      rotate_left
      · (intro wq hSw; have hc := ((HBXr.out.keep hSw (by omega)).cell 3); simp only [List.getElem?_toArray, List.getElem?_cons_zero, List.getElem?_cons_succ] at hc; go_simp; try with_reducible rfl)
      simp only [List.getElem_toArray, List.getElem_cons_succ, List.getElem_cons_zero, Act.put, List.setIfInBounds_toArray, List.set_cons_succ, List.set_cons_zero]
      refine wpAnyH_take (i := 5) (v := ?_) rfl (by kernel_rfl) (by kernel_rfl) (by kernel_rfl) (fun _ _ _ h => h) (Or.inl ⟨by rfl, ?_⟩) hS ?_
      rotate_left
      · (intro wq hSw; go_simp; try with_reducible rfl)
      simp only [List.getElem_toArray, List.getElem_cons_succ, List.getElem_cons_zero, Act.put, List.setIfInBounds_toArray, List.set_cons_succ, List.set_cons_zero]
      refine wpAnyH_take (i := 6) (v := ?_) rfl (by kernel_rfl) (by kernel_rfl) (by kernel_rfl) (fun _ _ _ h => h) (Or.inl ⟨by rfl, ?_⟩) hS ?_
      rotate_left
      · (intro wq hSw; go_simp; try with_reducible rfl)
      simp only [List.getElem_toArray, List.getElem_cons_succ, List.getElem_cons_zero, Act.put, List.setIfInBounds_toArray, List.set_cons_succ, List.set_cons_zero]
      refine wpAnyH_take (i := 7) (v := ?_) rfl (by kernel_rfl) (by kernel_rfl) (by kernel_rfl) (fun _ _ _ h => h) (Or.inl ⟨by rfl, ?_⟩) hS ?_
      rotate_left
      · (intro wq hSw; go_simp; try with_reducible rfl)
      simp only [List.getElem_toArray, List.getElem_cons_succ, List.getElem_cons_zero, Act.put, List.setIfInBounds_toArray, List.set_cons_succ, List.set_cons_zero]
      have c2 : wr.drew.cell? ⟨g, k * 3 + 2, none⟩ = some (.slice xA m xc) := b2
      refine wpAnyH_ready (rs := [8]) (by kernel_rfl) (by simp) ?_
      refine AllReadyH.cons rfl (fun K hK => ?_) AllReadyH.nil
      go_simp
      refine hK.out _ _ hS (fun hS => ?_)
      clear hK K
      refine wpAnyH_ready (rs := [9]) (by kernel_rfl) (by simp) ?_
      refine AllReadyH.cons rfl (fun K hK => ?_) AllReadyH.nil
      go_simp
      refine (clone_any wr.drew _ xA m xc d HXI.out.b (by have h8 := HFL.out _ (HC.out.e ▸ List.mem_map_of_mem (List.mem_of_getElem? HX.out)); have h9 := HXI.out.len; simp only [CV.e] at h8 h9; omega)).mono ?_
      rintro e x2 ⟨v2, rfl, hnew, hb⟩
      have hf2 : Fr wr x2 No := ((Fr.refl wr No).drew).trans (Fr.of_below hb No) fun _ hn => hn.elim
      refine hK.out _ _ ?_ (fun hS => ?_)
      · exact hS.trans (Fr.of_below hb No) fun _ hn => hn.elim
      clear hK K
      obtain ⟨A2, c2', rfl, hmc2, hnz2, hrb2⟩ := Ow.reads hnew
      have hdl : d.length = m := HXI.out.len
      rw [hdl] at hrb2 hmc2
      obtain ⟨g', cap', e', hSg', hgl', k0, k1, k2, kf, kin, kn, kset⟩ := (HC.out.o.fr hf2).set2 (T' := fun b => (T b ∧ b < wr.heap.size) ∨ (wr.heap.size ≤ b ∧ b < x2.heap.size)) HX.out
      injection e' with e1 e2 e3
      injection e1 with e1
      injection e1 with e1
      subst e1
      clear e2 e3
      have hins : ∀ (U : Nat → Prop), (∀ b, wr.heap.size ≤ b ∧ b < x2.heap.size → U b) → CV.In x2 U ⟨u, kk, A2, m, c2', d⟩ := fun U hU => ⟨hrb2.mono fun b hlt hb => hU b ⟨hb, hlt⟩, HXI.out.k, hmc2, HXI.out.ml, hnz2⟩
      have ho2 := kset A2 m c2' d (hins _ fun b hb => Or.inr hb) (fun b hlt hb => by
        by_cases hh : b < wr.heap.size
        · exact Or.inl ⟨hb, hh⟩
        · exact Or.inr ⟨by omega, hlt⟩) (fun hb => by
        rcases hb with hb | hb
        · exact kn hb.1
        · omega)
      have HO2 := Lib.hid ho2
      have HIN := Lib.hid (hins (fun b => wr.heap.size ≤ b ∧ b < x2.heap.size) fun b hb => hb)
      have HF2 := Lib.hid hf2
      have HKN := Lib.hid kn
      clear hnew hb hrb2 ho2 hins kset kin k0 k1 hf2
      refine wpAnyH_take (i := 10) (v := ?_) rfl (by kernel_rfl) (by kernel_rfl) (by kernel_rfl) (fun _ _ _ h => h) (Or.inl ⟨by rfl, ?_⟩) hS ?_
      rotate_left
      · (intro wq hSw; go_simp; try with_reducible rfl)
      simp only [List.getElem_toArray, List.getElem_cons_succ, List.getElem_cons_zero, Act.put, List.setIfInBounds_toArray, List.set_cons_succ, List.set_cons_zero]
      refine wpAnyH_take (i := 11) (v := ?_) rfl (by kernel_rfl) (by kernel_rfl) (by kernel_rfl) (fun _ _ _ h => h) (Or.inl ⟨by rfl, ?_⟩) hS ?_
      rotate_left
      · (intro wq hSw; go_simp; try with_reducible rfl)
      simp only [List.getElem_toArray, List.getElem_cons_succ, List.getElem_cons_zero, Act.put, List.setIfInBounds_toArray, List.set_cons_succ, List.set_cons_zero]
      refine wpAnyH_ready (rs := [12]) (by kernel_rfl) (by simp) ?_
      refine AllReadyH.cons rfl (fun K hK => ?_) AllReadyH.nil
      go_simp
      refine hK.out _ _ ?_ (fun hS => ?_)
      · exact hS.setCell (Or.inl rfl) _
      clear hK K
      refine wpAnyH_done (by kernel_rfl) ?_ _
      obtain ⟨F, hF⟩ : ∃ F, x2.setCell ⟨g, k * 3 + 2, none⟩ (.slice A2 m c2') = F := ⟨_, rfl⟩
      have HO3 := Lib.hid (show OwC F (fun b => W.heap.size ≤ b) (fun b => (T b ∧ b < wr.heap.size) ∨ (wr.heap.size ≤ b ∧ b < x2.heap.size)) (.slice (some ⟨g, 0, none⟩) n vc) n (lk.set k ⟨u, kk, A2, m, c2', d⟩) from hF ▸ HO2.out)
      have HFF := Lib.hid (show Fr x2 F (fun b => b = g) by rw [← hF]; exact (Fr.refl x2 (fun b => b = g)).setCell (p := ⟨g, k * 3 + 2, none⟩) (Or.inl rfl) _)
      rw [hF] at hS
      have HSS := Lib.hid hS
      clear hS
      go_wp2_with fail
      go_roundw
      case rel =>
        refine ⟨k + 1, _, fun b => (Tf b ∧ b < wr.heap.size) ∨ (wr.heap.size ≤ b ∧ b < x2.heap.size), _, by omega, by go_num, ⟨HO3.out, ?_, ?_, fun b hb => hb, ?_, ?_⟩, ?_, ?_, ?_⟩
        · rw [List.map_set, HC.out.e]
          have h9 := es_at HX.out
          rw [HC.out.e] at h9
          exact set_self h9
        · intro i x hi hx
          rcases Nat.lt_or_ge i k with hik | hik
          · rw [List.getElem?_set_ne (by omega)] at hx
            exact (((HC.out.own i x hik hx).mono (T' := fun b => Tf b ∧ b < wr.heap.size) fun b hlt hb => ⟨hb, hlt⟩).keep HF2.out fun _ _ hn => hn).keep HFF.out (fun b hb e => HKN.out (e ▸ HC.out.tt b hb.1)) |>.mono fun b _ hb => Or.inl hb
          · obtain rfl : i = k := by omega
            rw [List.getElem?_set_self (by omega)] at hx
            injection hx with hx
            subst hx
            exact (HIN.out.keep HFF.out fun b hb e => by omega).mono fun b _ hb => Or.inr hb
        · intro b hb
          rcases hb with hb | hb
          · exact HC.out.t0 b hb.1
          · omega
        · intro b hb
          rcases hb with hb | hb
          · exact Or.inl ⟨HC.out.tt b hb.1, hb.2⟩
          · exact Or.inr hb
        · exact HBXr.out.keep HSS.out (by omega)
        · exact HBRr.out.keep HSS.out (by omega)
        · exact HFR.out.trans HSS.out fun b hb => Or.inr (by omega)
      case measure => simp [intOf]; omega
    · have h1d : decide ((k : Int) < (n : Int)) = false := decide_eq_false (by omega)
      have h1d2 : decide (k < n) = false := decide_eq_false hlt
      have HKN := Lib.hid (show k = n by omega)
      have hbr3 := HBRr.out
      have r0 := hbr3.cell 0
      have r1 := hbr3.cell 1
      have r2 := hbr3.cell 2
      have r3 := hbr3.cell 3
      have q0 := hbr3.frozen 0
      have q1 := hbr3.frozen 1
      have q2 := hbr3.frozen 2
      have q3 := hbr3.frozen 3
      simp only [List.getElem?_toArray, List.getElem?_cons_zero, List.getElem?_cons_succ] at r0 r1 r2 r3
      obtain ⟨G, hG⟩ : ∃ G, (((wr.setCell ⟨W1.heap.size, 0, none⟩ (.int .i64 pk)).setCell ⟨W1.heap.size, 1, none⟩ (.int .u64 (ps : Int))).setCell ⟨W1.heap.size, 2, none⟩ (.int .u32 (px : Int))).setCell ⟨W1.heap.size, 3, none⟩ (.slice vA n vc) = G := ⟨_, rfl⟩
      have hbg : Blk G W1.heap.size 26 #[.int .i64 pk, .int .u64 (ps : Int), .int .u32 (px : Int), .slice vA n vc] := by rw [← hG]; exact (((hbr3.set_ 0 _).set_ 1 _).set_ 2 _).set_ 3 _
      have hfG : Fr wr G (fun b => b = W1.heap.size) := by
        rw [← hG]
        exact (((((Fr.refl wr (fun b => b = W1.heap.size)).setCell (p := ⟨W1.heap.size, 0, none⟩) (Or.inl rfl) _).setCell (p := ⟨W1.heap.size, 1, none⟩) (Or.inl rfl) _).setCell (p := ⟨W1.heap.size, 2, none⟩) (Or.inl rfl) _).setCell (p := ⟨W1.heap.size, 3, none⟩) (Or.inl rfl) _)
      have g0 := hbg.cell 0
      have g1 := hbg.cell 1
      have g2 := hbg.cell 2
      have g3 := hbg.cell 3
      simp only [List.getElem?_toArray, List.getElem?_cons_zero, List.getElem?_cons_succ] at g0 g1 g2 g3
      have HFG := Lib.hid hfG
      clear hbr3 hfG hbg
      go_wp2_with fail
      refine bodyPost_ret (v := .agg #[.int .i64 pk, .int .u64 (ps : Int), .int .u32 (px : Int), .slice vA n vc]) (by simp [results, Try.results60, go_sem, g0, g1, g2, g3]) rfl ?_
      have hoT : OwC wr (fun b => W.heap.size ≤ b) Tf (.slice vA n vc) n lk := ⟨HC.out.o.1, fun x hx => by
        obtain ⟨i, hi, rfl⟩ := List.getElem_of_mem hx
        exact HC.out.own i _ (by have := HKN.out; omega) (List.getElem?_eq_getElem hi), HC.out.o.2.2.1, fun q hq hT => HC.out.o.2.2.2 q hq (HC.out.tt q hT)⟩
      refine ⟨⟨pk, ps, px, vA, n, vc, lk⟩, fun b => W.heap.size ≤ b, Tf, rfl, ⟨?_, by show n ≤ _; omega, HK.out.1.1, HK.out.1.2, HK.out.2.1, HK.out.2.2⟩, fun b hb => by have := HSZ.out; omega, fun b hb => by have := HC.out.t0 b hb; have := HSZ.out; omega, HC.out.e, rfl, rfl, rfl, rfl, ?_⟩
      · exact hoT.keep HFG.out (fun b hb e => by have := HSZ.out; have := HSZ1.out; omega) fun b hb e => by have := HC.out.t0 b hb; have := HSZ.out; have := HSZ1.out; omega
      · exact HBW.out.trans ((HFR.out.below (fun b hb => by omega) HBW.out.size).trans (HFG.out.below (fun b hb => by have := HSZ1.out; omega) (by have := HBW.out.size; omega)))
end Go.Proofs.Ytajmpoanmdgmpaa
