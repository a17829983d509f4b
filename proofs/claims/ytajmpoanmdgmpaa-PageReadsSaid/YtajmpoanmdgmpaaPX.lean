/-
  THE WALK OF Decode.
-/
import Derived.Test.YtajmpoanmdgmpaaDMath
import Derived.Test.YtajmpoanmdgmpaaPN
namespace Go.Proofs.Ytajmpoanmdgmpaa
open Go.RowKit

/-- what is read of bytes -/
structure DP where
  k : Nat
  s : Nat
  x : Nat
  es : List CE
def decP (b : List Nat) : DP := if decOK b then ⟨(rpage true (b.drop 4)).k, (rpage true (b.drop 4)).s, (rpage true (b.drop 4)).x, (rpage true (b.drop 4)).es⟩ else ⟨0, 0, 0, []⟩
def DecB (w : World) (b : List Nat) (q : PV) (w' : World) : Prop :=
  ∃ S T, PO w' S T q ∧ (∀ g, S g → w.heap.size ≤ g) ∧ (∀ g, T g → w.heap.size ≤ g) ∧ Below w.heap.size w w' ∧ q.k = ((decP b).k : Int) ∧ q.s = (decP b).s ∧ q.x = (decP b).x ∧ q.es = (decP b).es
def DecO (w : World) (b : List Nat) (e : Ending) (w' : World) : Prop := ∃ q, e = .returned (.tuple #[q.agg, .int .i64 (if decOK b then 0 else 5)]) ∧ DecB w b q w'
def DecR (w : World) (b : List Nat) (e : Ending) (w' : World) : Prop := ∃ q, e = .returned (.tuple #[q.agg, .bool (decOK b)]) ∧ DecB w b q w'
theorem DecB.no {w w' : World} {b : List Nat} (h : decOK b = false) (hb : Below w.heap.size w w') : DecB w b PV.zero w' := by
  unfold DecB decP
  rw [if_neg (by rw [h]; simp)]
  exact ⟨fun g => w.heap.size ≤ g, fun g => w.heap.size ≤ g, ⟨OwC.nil_ _ _ _, Nat.zero_le _, by show (_ : Int) ≤ 0; omega, by show (0 : Int) ≤ _; omega, by show 0 < _; omega, by show 0 < _; omega⟩, fun _ h => h, fun _ h => h, hb, rfl, rfl, rfl, rfl⟩
/-- .. and its bytes may be written over -/
def DecBW (w : World) (b : List Nat) (q : PV) (w' : World) : Prop :=
  ∃ S T, PO w' S T q ∧ (∀ g, S g → w.heap.size ≤ g) ∧ (∀ g, T g → w.heap.size ≤ g) ∧ Below w.heap.size w w' ∧ (q.k = ((decP b).k : Int) ∧ q.s = (decP b).s ∧ q.x = (decP b).x ∧ q.es = (decP b).es) ∧ ∀ x ∈ q.l, WB w' T x.A x.m
def DecW (w : World) (b : List Nat) (e : Ending) (w' : World) : Prop := ∃ q, e = .returned (.tuple #[q.agg, .int .i64 (if decOK b then 0 else 5)]) ∧ DecBW w b q w'
theorem DecBW.no {w w' : World} {b : List Nat} (h : decOK b = false) (hb : Below w.heap.size w w') : DecBW w b PV.zero w' := by
  obtain ⟨S, T, a, b1, c, d, e⟩ := DecB.no h hb
  exact ⟨S, T, a, b1, c, d, e, fun x hx => by simp [PV.zero] at hx⟩
theorem left_len {α : Type} (ok : Bool) (l : List Nat) (o : Option (α × Nat)) : (leftO ok l o).length ≤ l.length := by
  unfold leftO
  split
  · rw [List.length_drop]; omega
  · exact Nat.le_refl _
theorem take_len (ok : Bool) (l : List Nat) (n : Int) : (valO ok (takeO l n) []).length ≤ l.length := by
  cases ok with
  | false => simp [valO]
  | true =>
    unfold takeO
    split
    · show (l.take n.toNat).length ≤ _
      rw [List.length_take]; omega
    · simp [valO]
theorem rcell_le (ok : Bool) (l : List Nat) : (rcell ok l).c.d.length ≤ l.length ∧ (rcell ok l).l.length ≤ l.length := by
  unfold rcell
  simp only
  split
  · exact ⟨Nat.zero_le _, left_len _ _ _⟩
  · have h1 := left_len ok l (fixO l 2)
    have h2 := left_len (okO ok (fixO l 2)) (leftO ok l (fixO l 2)) (fixO (leftO ok l (fixO l 2)) 4)
    exact ⟨Nat.le_trans (take_len _ _ _) (Nat.le_trans h2 h1), Nat.le_trans (left_len _ _ _) (Nat.le_trans h2 h1)⟩
theorem rcs_le (ok : Bool) (l : List Nat) : ∀ k, (∀ c ∈ (rcs ok l k).1, c.d.length ≤ l.length) ∧ (rcs ok l k).2.2.length ≤ l.length
  | 0 => ⟨by simp [rcs], Nat.le_refl _⟩
  | k + 1 => by
    obtain ⟨h1, h2⟩ := rcs_le ok l k
    obtain ⟨h3, h4⟩ := rcell_le (rcs ok l k).2.1 (rcs ok l k).2.2
    rw [rcs_succ]
    refine ⟨fun c hc => ?_, Nat.le_trans h4 h2⟩
    rcases List.mem_append.1 hc with hc | hc
    · exact h1 c hc
    · rw [List.mem_singleton] at hc
      subst hc
      omega
theorem rpage_le (ok : Bool) (l : List Nat) : ∀ c ∈ (rpage ok l).es, c.d.length ≤ l.length := by
  intro c hc
  unfold rpage at hc
  simp only at hc
  refine Nat.le_trans ((rcs_le _ _ _).1 c hc) ?_
  exact Nat.le_trans (left_len _ _ _) (Nat.le_trans (left_len _ _ _) (Nat.le_trans (left_len _ _ _) (left_len _ _ _)))
theorem rpage_n (ok : Bool) (l : List Nat) (h : ∀ x ∈ l, x < 256) : (rpage ok l).n < 256 := by
  have := fix_lt 1 (okO ok (fixO l 1)) (leftO ok l (fixO l 1)) (left_lt _ _ _ h)
  unfold rpage
  simpa using this
theorem endBelow {w W wx G : World} {SR : Nat → Prop} (hBW : Below w.heap.size w W) (hf : Fr W wx SR) (hS : ∀ b, SR b → W.heap.size ≤ b) (hg : Fr wx G (fun b => b = w.heap.size)) : Below w.heap.size w G := by
  have h1 : Fr W wx (fun b => SR b ∨ b = w.heap.size) := hf.mono fun _ _ h => Or.inl h
  have h2 : Fr W G (fun b => SR b ∨ b = w.heap.size) := h1.trans hg fun b hb => Or.inl (Or.inr hb)
  refine hBW.trans (h2.below (fun b hb => ?_) hBW.size)
  rcases hb with hb | hb
  · exact Nat.le_trans hBW.size (hS b hb)
  · omega
def kept (ok : Bool) (l : List Nat) : List Nat := if ok then l else []
theorem rraw_all (w : World) (S : Nat → Prop) (p : Option Nat) (ok : Bool) (l : List Nat) (h : Rd w S p ok l) : Calls Try.prog 55 #[ptr p, .int .i64 ((l.length : Nat) : Int)] w fun e w' =>
    ∃ A k c, e = .returned (.slice A k c) ∧ k = (kept ok l).length ∧ RB w' All A k (kept ok l) ∧ (∃ l', Rd w' S p ok l' ∧ (ok && l'.isEmpty) = ok) ∧ Fr w w' S := by
  have hl := Rd.len h
  have hlen : takeO l ((l.length : Nat) : Int) = some (l, l.length) := by rw [takeO_yes (Nat.le_refl _), List.take_length]
  refine (rraw_any w S p ok l ((l.length : Nat) : Int) (by omega) (by omega) h).mono ?_
  rintro e w' ⟨v, k, rfl, hk, ho, hd, hf⟩
  rw [hlen] at hk ho hd
  have hv : valO ok (some (l, l.length)) [] = kept ok l := by cases ok <;> rfl
  rw [hv] at hk ho
  obtain ⟨A, c, rfl, _, _, hr⟩ := ho.reads
  refine ⟨A, k, c, rfl, hk, hr.mono fun _ _ _ => trivial, ⟨leftO ok l (some (l, l.length)), ?_, ?_⟩, hf⟩
  · have e1 : okO ok (some (l, l.length)) = ok := by cases ok <;> rfl
    rw [e1] at hd
    exact hd
  · cases ok with
    | false => rfl
    | true => simp [leftO]

set_option maxRecDepth 100000 in
theorem decode_short (w : World) (A : Option Addr) (n c : Nat) (l : List Nat) (hl : l.length = n) (hn : n ≠ 512) : Calls Try.prog 26 #[.slice A n c] w (DecW w l) := by
  have HDF : Hid (decOK l = false) := by unfold decOK; rw [decide_eq_false (by omega)]; exact Lib.hid rfl
  have hbr := Blk.new w 26 #[.int .i64 0, .int .u64 0, .int .u32 0, .slice none 0 0]
  have hBW : Below w.heap.size w (w.alloc (.cells #[.int .i64 0, .int .u64 0, .int .u32 0, .slice none 0 0] 26)) := (Below.refl _ _).alloc (Nat.le_refl _) _
  obtain ⟨W, hW⟩ : ∃ W, w.alloc (.cells #[.int .i64 0, .int .u64 0, .int .u32 0, .slice none 0 0] 26) = W := ⟨_, rfl⟩
  rw [hW] at hbr hBW
  have HBW := Lib.hid hBW
  have z0 : ((n : Int) != 512) = true := bne_iff_ne.2 (by omega)
  clear hl hn hBW
  have r0 := hbr.cell 0
  have r1 := hbr.cell 1
  have r2 := hbr.cell 2
  have r3 := hbr.cell 3
  have q0 := hbr.frozen 0
  have q1 := hbr.frozen 1
  have q2 := hbr.frozen 2
  have q3 := hbr.frozen 3
  simp only [List.getElem?_toArray, List.getElem?_cons_zero, List.getElem?_cons_succ] at r0 r1 r2 r3
  obtain ⟨G, hG⟩ : ∃ G, (((W.setCell ⟨w.heap.size, 0, none⟩ (.int .i64 0)).setCell ⟨w.heap.size, 1, none⟩ (.int .u64 0)).setCell ⟨w.heap.size, 2, none⟩ (.int .u32 0)).setCell ⟨w.heap.size, 3, none⟩ (.slice none 0 0) = G := ⟨_, rfl⟩
  have hbg : Blk G w.heap.size 26 #[.int .i64 0, .int .u64 0, .int .u32 0, (.slice none 0 0)] := by rw [← hG]; exact (((hbr.set_ 0 _).set_ 1 _).set_ 2 _).set_ 3 _
  have hfG : Fr W G (fun b => b = w.heap.size) := by
    rw [← hG]
    exact fr_set (fr_set (fr_set (fr_set (Fr.refl _ _) _ _) _ _) _ _) _ _
  have g0 := hbg.cell 0
  have g1 := hbg.cell 1
  have g2 := hbg.cell 2
  have g3 := hbg.cell 3
  simp only [List.getElem?_toArray, List.getElem?_cons_zero, List.getElem?_cons_succ] at g0 g1 g2 g3
  have HFG := Lib.hid hfG
  clear hbg hfG
  go_enter Try.func26, Try.ntmps26
  go_wp2_with fail
  refine bodyPost_ret (v := .tuple #[PV.zero.agg, .int .i64 5]) (by simp [results, Try.results26, go_sem, g0, g1, g2, g3, PV.agg, PV.zero]) rfl ?_
  refine ⟨PV.zero, ?_, DecBW.no HDF.out ?_⟩
  · rw [HDF.out]; rfl
  · exact HBW.out.trans (HFG.out.below (fun b hb => Nat.le_of_eq (Eq.symm hb)) HBW.out.size)

set_option maxHeartbeats 4000000 in
set_option maxRecDepth 100000 in
theorem decode_full (w : World) (A : Option Addr) (n c : Nat) (l : List Nat) (hr : RB w All A n l) (hn : n = 512) (hnc : n ≤ c) : Calls Try.prog 26 #[.slice A n c] w (DecW w l) := by
  have hll := hr.len
  have hlt := hr.lt
  have hbr := Blk.new w 26 #[.int .i64 0, .int .u64 0, .int .u32 0, .slice none 0 0]
  have hBW : Below w.heap.size w (w.alloc (.cells #[.int .i64 0, .int .u64 0, .int .u32 0, .slice none 0 0] 26)) := (Below.refl _ _).alloc (Nat.le_refl _) _
  obtain ⟨W, hW⟩ : ∃ W, w.alloc (.cells #[.int .i64 0, .int .u64 0, .int .u32 0, .slice none 0 0] 26) = W := ⟨_, rfl⟩
  rw [hW] at hbr hBW
  have hsz : W.heap.size = w.heap.size + 1 := by rw [← hW]; simp
  have hrW : RB W (fun b => b < w.heap.size) A n l := (hr.mono (T := fun b => b < w.heap.size) fun b hb _ => hb).keep (Fr.of_below hBW No) fun _ _ hn => hn
  have HNR := Lib.hid (newReader_any W _ A n c l hrW (by omega))
  have HBW := Lib.hid hBW
  have HBR := Lib.hid hbr
  have HSZ := Lib.hid hsz
  have HRW := Lib.hid hrW
  have HLT := Lib.hid hlt
  have HLL := Lib.hid hll
  have z0 : ((n : Int) != 512) = false := bne_eq_false_iff_eq.2 (by omega)
  obtain ⟨ad, rfl⟩ : ∃ ad, A = some ad := by
    obtain ⟨ad, e, _⟩ := hr.2.2 (by omega)
    exact ⟨ad, e⟩
  have HT : Hid (∀ (wx : World), RB wx (fun b => b < w.heap.size) (some ad) n l → RB wx All (some ⟨ad.block, ad.off + 4, none⟩) (n - 4) (l.drop 4)) := fun wx hx => by
    have := (hx.mono (T := All) fun _ _ _ => trivial).drop (k := 4) (c := c) (by omega) hnc
    rw [if_neg (by omega)] at this
    simpa [Addr.add] using this
  have hn4 : (4 : Int) ≤ (n : Int) := by omega
  have hnc' : (n : Int) ≤ (c : Int) := by omega
  have h4c : ¬ (c = 4) := by omega
  have HNC := Lib.hid (show 4 ≤ n ∧ n ≤ c ∧ n = 512 from ⟨by omega, hnc, hn⟩)
  clear hll hlt hbr hBW hsz hrW hr hn
  go_enter Try.func26, Try.ntmps26
  go_wp2_with fail
  with_reducible refine HNR.out.mono ?_
  rintro e w1 ⟨g, rfl, hd1, hb1⟩
  have hd1' : Rd w1 (fun b => W.heap.size ≤ b ∧ b < w1.heap.size) (some g) true l := Rd.up hd1
  obtain ⟨SR, hSR⟩ : ∃ SR : Nat → Prop, SR = fun b => W.heap.size ≤ b ∧ b < w1.heap.size := ⟨_, rfl⟩
  rw [← hSR] at hd1'
  have HSR := Lib.hid (show ∀ b, SR b → W.heap.size ≤ b ∧ b < w1.heap.size by rw [hSR]; exact fun b hb => hb)
  have HD1 := Lib.hid hd1'
  have HB1 := Lib.hid hb1
  have HU := Lib.hid (ru32_any w1.drew SR (some g) true l (Rd.drew hd1'))
  obtain ⟨x, hx⟩ : ∃ x, x = valO true (fixO l 4) 0 := ⟨_, rfl⟩
  rw [← hx] at HU
  have HX := Lib.hid hx
  clear hd1 hd1' hb1 hSR hx
  go_upto_region 4 with fail
  refine wp_region_held_drew (S := fun wx => Fr w1 wx SR) (by kernel_rfl) ((Fr.refl w1 _).drew) (fun hS => ?_)
  refine wpAnyH_take (i := 0) (v := ?_) rfl (by kernel_rfl) (by kernel_rfl) (by kernel_rfl) (fun _ _ _ h => h) (Or.inl ⟨by rfl, ?_⟩) hS ?_
  rotate_left
  · (intro wq hSw; go_simp; try with_reducible rfl)
  refine wpAnyH_take (i := 2) (v := ?_) rfl (by kernel_rfl) (by kernel_rfl) (by kernel_rfl) (fun _ _ _ h => h) (Or.inl ⟨by rfl, ?_⟩) hS ?_
  rotate_left
  · (intro wq hSw; go_simp; try with_reducible rfl)
  simp only [List.getElem_toArray, List.getElem_cons_succ, List.getElem_cons_zero, Act.put, List.setIfInBounds_toArray, List.set_cons_succ, List.set_cons_zero]
  refine wpAnyH_take (i := 3) (v := ?_) rfl (by kernel_rfl) (by kernel_rfl) (by kernel_rfl) (fun _ _ _ h => h) (Or.inl ⟨by rfl, ?_⟩) hS ?_
  rotate_left
  · (intro wq hSw; go_simp; try with_reducible rfl)
  simp only [List.getElem_toArray, List.getElem_cons_succ, List.getElem_cons_zero, Act.put, List.setIfInBounds_toArray, List.set_cons_succ, List.set_cons_zero]
  refine wpAnyH_ready (rs := [1]) (by kernel_rfl) (by simp) ?_
  refine AllReadyH.cons rfl (fun K hK => ?_) AllReadyH.nil
  go_simp
  refine HU.out.mono ?_
  rintro e x2 ⟨rfl, hd2, hf2⟩
  refine hK.out _ _ ?_ (fun hS => ?_)
  · exact hS.trans hf2 fun b hb => Or.inl hb
  clear hK K
  have hfx : Fr w1 x2 SR := (Fr.refl w1 SR).drew.trans hf2 fun _ hb => Or.inl hb
  have HF2 := Lib.hid hfx
  have HD2 := Lib.hid hd2
  have hrb2 : RB x2 (fun b => b < w.heap.size) (some ad) n l := (HRW.out.keep (Fr.of_below HB1.out No) fun _ _ hn => hn).keep hfx fun b hb h => by have := (HSR.out b h).1; have := HSZ.out; omega
  have HSO := Lib.hid (sof_any (some ⟨ad.block, ad.off + 4, none⟩) (n - 4) (c - 4) (l.drop 4) x2 (by simp only [maxLen]; have := HNC.out; omega) (HT.out x2 hrb2))
  clear hd2 hf2 hfx hrb2
  obtain ⟨y, hy⟩ : ∃ y, y = Crc.more 0 (l.drop 4) := ⟨_, rfl⟩
  rw [← hy] at HSO
  have HY := Lib.hid hy
  clear hy
  refine wpAnyH_ready (rs := [4]) (by kernel_rfl) (by simp) ?_
  refine AllReadyH.cons rfl (fun K hK => ?_) AllReadyH.nil
  go_simp
  refine HSO.out.mono ?_
  rintro e x3 ⟨rfl, rfl⟩
  refine hK.out _ _ hS (fun hS => ?_)
  clear hK K
  by_cases hxy : x = y
  · have y0 : ((x : Int) != (y : Int)) = false := bne_eq_false_iff_eq.2 (by omega)
    refine wpAnyH_take (i := 5) (v := ?_) rfl (by kernel_rfl) (by kernel_rfl) (by kernel_rfl) (fun _ _ _ h => h) (Or.inl ⟨by rfl, ?_⟩) hS ?_
    rotate_left
    · (intro wq hSw; go_simp; try with_reducible rfl)
    simp only [List.getElem_toArray, List.getElem_cons_succ, List.getElem_cons_zero, Act.put, List.setIfInBounds_toArray, List.set_cons_succ, List.set_cons_zero]
    refine wpAnyH_done (by kernel_rfl) ?_ _
    have hrdS : ∀ b, SR b → b < x2.heap.size := fun b hb => Nat.lt_of_lt_of_le (HSR.out b hb).2 HF2.out.size
    have HRP := Lib.hid (readPage_soft x2 SR (some g) _ _ HD2.out hrdS)
    have HSX := Lib.hid hrdS
    have HXY := Lib.hid hxy
    clear hrdS hxy hS
    have hok4 : okO true (fixO l 4) = true ∧ leftO true l (fixO l 4) = l.drop 4 := by
      have h4 : fixO l 4 = some (Cd.unfix (l.take 4), 4) := by
        unfold fixO
        rw [show ((4 : Nat) : Int) = ((4 : Nat) : Int) from rfl, takeO_yes (by have := HLL.out; have := HNC.out; omega)]
        rfl
      rw [h4]
      exact ⟨rfl, rfl⟩
    rw [hok4.1, hok4.2] at HRP
    clear hok4
    obtain ⟨r, hr⟩ : ∃ r, r = rpage true (l.drop 4) := ⟨_, rfl⟩
    rw [← hr] at HRP
    have HR := Lib.hid hr
    clear hr
    go_wp2_with fail
    with_reducible refine HRP.out.mono ?_
    rintro e w5 ⟨q, S', T', rfl, hpo, hS', hT', hes, hqk, hqs, hqx, hqn, hd5, hf5, hwb5⟩
    obtain ⟨W6, hW6, hB6, hbx6, hsz6⟩ := box_page w5 q
    have hqi6 : q.In W6 (fun b => b < W6.heap.size) (fun b => b < W6.heap.size) := (hpo.In.mono (S' := fun b => b < W6.heap.size) (T' := fun b => b < W6.heap.size) (fun b hb _ => by omega) fun b hb _ => by omega).below hB6
    have HPO := Lib.hid hpo
    have HWB5 := Lib.hid hwb5
    have HQI := Lib.hid hqi6
    have HB6 := Lib.hid hB6
    have HBX := Lib.hid hbx6
    have HSZ6 := Lib.hid hsz6
    have HQ := Lib.hid (show (∀ b, S' b → x2.heap.size ≤ b) ∧ (∀ b, T' b → x2.heap.size ≤ b) ∧ q.es = r.es ∧ q.k = (r.k : Int) ∧ q.s = r.s ∧ q.x = r.x ∧ q.n = r.n from ⟨hS', hT', hes, hqk, hqs, hqx, hqn⟩)
    have HS25 := Lib.hid (show x2.heap.size ≤ w5.heap.size from hf5.size)
    have HF5 := Lib.hid (show Fr w1 w5 SR from HF2.out.trans hf5 fun _ hb => Or.inl hb)
    have hd6 : Rd W6 SR (some g) r.ok r.l := Rd.keep hd5 (Fr.of_below hB6 No) fun _ _ hn => hn
    have HD6 := Lib.hid hd6
    have HLE := Lib.hid (left_any W6 SR (some g) r.ok r.l hd6)
    have HRA := Lib.hid (rraw_all W6 SR (some g) r.ok r.l hd6)
    obtain ⟨rk, rs, rx, rn, res, rok, rl⟩ := r
    simp only at HD6 HLE HRA
    clear hwb5 hpo hqi6 hB6 hbx6 hsz6 hS' hT' hes hqk hqs hqx hqn hd5 hf5 hd6 HRP
    obtain ⟨pk, ps, px, pA, pn, pc, pl⟩ := q
    simp only at hW6
    simp only [PV.agg]
    go_wp2_with fail
    with_reducible refine HLE.out.mono ?_
    rintro e w7 ⟨rfl, rfl⟩
    go_wp2_with fail
    with_reducible refine HRA.out.mono ?_
    rintro e w8 ⟨A8, k8, c8, rfl, hk8, hr8, ⟨l8, hd8, hl8⟩, hf8⟩
    have hk8b : k8 ≤ 140737488351232 := by
      rw [hk8]
      have := Rd.len HD6.out
      unfold kept
      split
      · exact this
      · simp
    have HAN := Lib.hid (areNoughts_any All A8 k8 c8 (kept rok rl) w8 hr8 hk8b)
    have HEND := Lib.hid (end_any w8 SR (some g) rok l8 hd8)
    rw [hl8] at HEND
    have HF8 := Lib.hid hf8
    have HK8 := Lib.hid hk8
    clear hk8 hr8 hd8 hl8 hf8 hk8b
    have HFZ8 : Hid (Fr W w8 SR) := Lib.hid ((((Fr.of_below HB1.out SR).trans HF5.out fun _ hb => Or.inl hb).trans (Fr.of_below HB6.out No) fun _ hb => hb.elim).trans HF8.out fun _ hb => Or.inl hb)
    obtain ⟨nb, hnb⟩ : ∃ nb : Bool, nb = decide (∀ j, j < k8 → (kept rok rl).getD j 0 = 0) := ⟨_, rfl⟩
    rw [← hnb] at HAN
    have HNB := Lib.hid hnb
    clear hnb
    go_wp2_with fail
    with_reducible refine HAN.out.mono ?_
    rintro e w8' ⟨rfl, rfl⟩
    cases nb with
    | false =>
      have HDF := Lib.hid (show decOK l = false by
        unfold decOK
        rw [← HR.out]
        have h1 := HNB.out
        have h2 := HK8.out
        cases rok with
        | false => simp
        | true =>
          have h3 : decide (∀ j, j < rl.length → rl.getD j 0 = 0) = false := by rw [h2] at h1; exact h1.symm
          simp only [h3]
          simp)
      have hbrz := HBR.out.keep HFZ8.out (fun h => by have := (HSR.out _ h).1; have := HSZ.out; omega)
      have r0 := hbrz.cell 0
      have r1 := hbrz.cell 1
      have r2 := hbrz.cell 2
      have r3 := hbrz.cell 3
      have q0 := hbrz.frozen 0
      have q1 := hbrz.frozen 1
      have q2 := hbrz.frozen 2
      have q3 := hbrz.frozen 3
      simp only [List.getElem?_toArray, List.getElem?_cons_zero, List.getElem?_cons_succ] at r0 r1 r2 r3
      obtain ⟨G, hG⟩ : ∃ G, (((w8.setCell ⟨w.heap.size, 0, none⟩ (.int .i64 0)).setCell ⟨w.heap.size, 1, none⟩ (.int .u64 0)).setCell ⟨w.heap.size, 2, none⟩ (.int .u32 0)).setCell ⟨w.heap.size, 3, none⟩ (.slice none 0 0) = G := ⟨_, rfl⟩
      have hbg : Blk G w.heap.size 26 #[.int .i64 0, .int .u64 0, .int .u32 0, (.slice none 0 0)] := by rw [← hG]; exact (((hbrz.set_ 0 _).set_ 1 _).set_ 2 _).set_ 3 _
      have hfG : Fr w8 G (fun b => b = w.heap.size) := by
        rw [← hG]
        exact fr_set (fr_set (fr_set (fr_set (Fr.refl _ _) _ _) _ _) _ _) _ _
      have g0 := hbg.cell 0
      have g1 := hbg.cell 1
      have g2 := hbg.cell 2
      have g3 := hbg.cell 3
      simp only [List.getElem?_toArray, List.getElem?_cons_zero, List.getElem?_cons_succ] at g0 g1 g2 g3
      have HFG := Lib.hid hfG
      clear hbg hfG
      clear hbrz
      go_wp2_with fail
      refine bodyPost_ret (v := .tuple #[PV.zero.agg, .int .i64 5]) (by simp [results, Try.results26, go_sem, g0, g1, g2, g3, PV.agg, PV.zero]) rfl ?_
      refine ⟨PV.zero, ?_, DecBW.no HDF.out ?_⟩
      · rw [HDF.out]; rfl
      · exact endBelow HBW.out HFZ8.out (fun b hb => (HSR.out b hb).1) HFG.out
    | true =>
      go_wp2_with fail
      with_reducible refine HEND.out.mono ?_
      rintro e w9 ⟨rfl, hd9, hf9⟩
      have HFZ9 : Hid (Fr W w9 SR) := Lib.hid (HFZ8.out.trans hf9 fun _ hb => Or.inl hb)
      have HF69 : Hid (Fr W6 w9 SR) := Lib.hid (HF8.out.trans hf9 fun _ hb => Or.inl hb)
      clear hd9 hf9
      cases rok with
      | false =>
        have HDF := Lib.hid (show decOK l = false by
          unfold decOK
          rw [← HR.out]
          simp)
        simp only [errOf, Bool.false_eq_true, if_false]
        have hbrz := HBR.out.keep HFZ9.out (fun h => by have := (HSR.out _ h).1; have := HSZ.out; omega)
        have r0 := hbrz.cell 0
        have r1 := hbrz.cell 1
        have r2 := hbrz.cell 2
        have r3 := hbrz.cell 3
        have q0 := hbrz.frozen 0
        have q1 := hbrz.frozen 1
        have q2 := hbrz.frozen 2
        have q3 := hbrz.frozen 3
        simp only [List.getElem?_toArray, List.getElem?_cons_zero, List.getElem?_cons_succ] at r0 r1 r2 r3
        obtain ⟨G, hG⟩ : ∃ G, (((w9.setCell ⟨w.heap.size, 0, none⟩ (.int .i64 0)).setCell ⟨w.heap.size, 1, none⟩ (.int .u64 0)).setCell ⟨w.heap.size, 2, none⟩ (.int .u32 0)).setCell ⟨w.heap.size, 3, none⟩ (.slice none 0 0) = G := ⟨_, rfl⟩
        have hbg : Blk G w.heap.size 26 #[.int .i64 0, .int .u64 0, .int .u32 0, (.slice none 0 0)] := by rw [← hG]; exact (((hbrz.set_ 0 _).set_ 1 _).set_ 2 _).set_ 3 _
        have hfG : Fr w9 G (fun b => b = w.heap.size) := by
          rw [← hG]
          exact fr_set (fr_set (fr_set (fr_set (Fr.refl _ _) _ _) _ _) _ _) _ _
        have g0 := hbg.cell 0
        have g1 := hbg.cell 1
        have g2 := hbg.cell 2
        have g3 := hbg.cell 3
        simp only [List.getElem?_toArray, List.getElem?_cons_zero, List.getElem?_cons_succ] at g0 g1 g2 g3
        have HFG := Lib.hid hfG
        clear hbg hfG
        clear hbrz
        go_wp2_with fail
        refine bodyPost_ret (v := .tuple #[PV.zero.agg, .int .i64 5]) (by simp [results, Try.results26, go_sem, g0, g1, g2, g3, PV.agg, PV.zero]) rfl ?_
        refine ⟨PV.zero, ?_, DecBW.no HDF.out ?_⟩
        · rw [HDF.out]; rfl
        · exact endBelow HBW.out HFZ9.out (fun b hb => (HSR.out b hb).1) HFG.out
      | true =>
        simp only [errOf, if_true]
        have HNS : Hid (∀ b, x2.heap.size ≤ b → ¬ SR b) := fun b hb h => by have := HSX.out b h; omega
        have hqo9 : PO w9 S' T' ⟨pk, ps, px, pA, pn, pc, pl⟩ := ((HPO.out.keep (Fr.of_below HB6.out No) (fun _ _ hn => hn) fun _ _ hn => hn).keep HF69.out (fun b hb => HNS.out b (HQ.out.1 b hb)) (fun b hb => HNS.out b (HQ.out.2.1 b hb)))
        have HQO9 := Lib.hid hqo9
        have hfew : Few ⟨pk, ps, px, pA, pn, pc, pl⟩ := few_of hqo9.In (by
          have h1 := HQ.out.2.2.1
          have h2 := rpage_len true (l.drop 4)
          have h3 := rpage_n true (l.drop 4) (fun z hz => HLT.out z (List.mem_of_mem_drop hz))
          rw [← HR.out] at h2 h3
          simp only at h2 h3
          rw [h1, h2]; omega) (by
          have h1 := HQ.out.2.2.1
          rw [h1]
          intro cc hcc
          have h2 := rpage_le true (l.drop 4) cc
          rw [← HR.out] at h2
          have h3 := h2 hcc
          rw [List.length_drop, HLL.out] at h3
          have := HNC.out
          omega)
        have HMA := Lib.hid (may_any ⟨pk, ps, px, pA, pn, pc, pl⟩ w9 hqo9.In.all hfew)
        obtain ⟨mb, hmb⟩ : ∃ mb, mb = may pk (⟨pk, ps, px, pA, pn, pc, pl⟩ : PV).es := ⟨_, rfl⟩
        simp only [PV.agg] at HMA
        rw [← hmb] at HMA
        have HMB := Lib.hid hmb
        have hbx9 := HBX.out.keep HF69.out (HNS.out _ HS25.out)
        obtain ⟨t0, t1, t2, t3⟩ := pcs_cells hbx9
        simp only at t0 t1 t2 t3
        have HBX9 := Lib.hid hbx9
        clear hqo9 hfew hmb hbx9
        go_wp2_with fail
        with_reducible refine HMA.out.mono ?_
        rintro e wa ⟨rfl, hba⟩
        have HFZA : Hid (Fr W wa SR) := Lib.hid (HFZ9.out.trans (Fr.of_below hba No) fun _ hb => hb.elim)
        have HBA := Lib.hid hba
        clear hba
        cases mb with
        | false =>
          have HDF := Lib.hid (show decOK l = false by
            have h1 := HMB.out
            have h2 : (rk : Int) = pk := HQ.out.2.2.2.1.symm
            have h3 : (⟨pk, ps, px, pA, pn, pc, pl⟩ : PV).es = res := HQ.out.2.2.1
            unfold decOK
            rw [← HR.out]
            simp only
            rw [h2, ← h3, ← h1]
            simp)
          have hbrz := HBR.out.keep HFZA.out (fun h => by have := (HSR.out _ h).1; have := HSZ.out; omega)
          have r0 := hbrz.cell 0
          have r1 := hbrz.cell 1
          have r2 := hbrz.cell 2
          have r3 := hbrz.cell 3
          have q0 := hbrz.frozen 0
          have q1 := hbrz.frozen 1
          have q2 := hbrz.frozen 2
          have q3 := hbrz.frozen 3
          simp only [List.getElem?_toArray, List.getElem?_cons_zero, List.getElem?_cons_succ] at r0 r1 r2 r3
          obtain ⟨G, hG⟩ : ∃ G, (((wa.setCell ⟨w.heap.size, 0, none⟩ (.int .i64 0)).setCell ⟨w.heap.size, 1, none⟩ (.int .u64 0)).setCell ⟨w.heap.size, 2, none⟩ (.int .u32 0)).setCell ⟨w.heap.size, 3, none⟩ (.slice none 0 0) = G := ⟨_, rfl⟩
          have hbg : Blk G w.heap.size 26 #[.int .i64 0, .int .u64 0, .int .u32 0, (.slice none 0 0)] := by rw [← hG]; exact (((hbrz.set_ 0 _).set_ 1 _).set_ 2 _).set_ 3 _
          have hfG : Fr wa G (fun b => b = w.heap.size) := by
            rw [← hG]
            exact fr_set (fr_set (fr_set (fr_set (Fr.refl _ _) _ _) _ _) _ _) _ _
          have g0 := hbg.cell 0
          have g1 := hbg.cell 1
          have g2 := hbg.cell 2
          have g3 := hbg.cell 3
          simp only [List.getElem?_toArray, List.getElem?_cons_zero, List.getElem?_cons_succ] at g0 g1 g2 g3
          have HFG := Lib.hid hfG
          clear hbg hfG
          clear hbrz
          go_wp2_with fail
          refine bodyPost_ret (v := .tuple #[PV.zero.agg, .int .i64 5]) (by simp [results, Try.results26, go_sem, g0, g1, g2, g3, PV.agg, PV.zero]) rfl ?_
          refine ⟨PV.zero, ?_, DecBW.no HDF.out ?_⟩
          · rw [HDF.out]; rfl
          · exact endBelow HBW.out HFZA.out (fun b hb => (HSR.out b hb).1) HFG.out
        | true =>
          have hbpa := HBX9.out.below HBA.out (by have := HBX9.out.lt; exact this)
          obtain ⟨t0, t1, t2, t3⟩ := pcs_cells hbpa
          simp only at t0 t1 t2 t3
          clear hbpa
          have HDT := Lib.hid (show decOK l = true by
            have h1 := HMB.out
            have h2 : (rk : Int) = pk := HQ.out.2.2.2.1.symm
            have h3 : (⟨pk, ps, px, pA, pn, pc, pl⟩ : PV).es = res := HQ.out.2.2.1
            have h4 := HNB.out
            have h5 := HK8.out
            have h6 := HX.out
            have h7 := HY.out
            have h8 := HXY.out
            unfold decOK
            rw [← HR.out]
            simp only
            rw [h2, ← h3, ← h1]
            have e1 : decide (l.length = 512) = true := decide_eq_true (by have := HLL.out; have := HNC.out; omega)
            have e2 : decide (∀ j, j < rl.length → rl.getD j 0 = 0) = true := by rw [h5] at h4; exact h4.symm
            have e3 : Cd.unfix (l.take 4) = x := by
              rw [h6]
              unfold fixO
              rw [show takeO l ((4 : Nat) : Int) = some (l.take 4, 4) from takeO_yes (by have := HLL.out; have := HNC.out; omega)]
              rfl
            rw [e1, e2, e3, ← h7, h8]
            simp)
          have hbrz := HBR.out.keep HFZA.out (fun h => by have := (HSR.out _ h).1; have := HSZ.out; omega)
          have r0 := hbrz.cell 0
          have r1 := hbrz.cell 1
          have r2 := hbrz.cell 2
          have r3 := hbrz.cell 3
          have q0 := hbrz.frozen 0
          have q1 := hbrz.frozen 1
          have q2 := hbrz.frozen 2
          have q3 := hbrz.frozen 3
          simp only [List.getElem?_toArray, List.getElem?_cons_zero, List.getElem?_cons_succ] at r0 r1 r2 r3
          obtain ⟨G, hG⟩ : ∃ G, (((wa.setCell ⟨w.heap.size, 0, none⟩ (.int .i64 pk)).setCell ⟨w.heap.size, 1, none⟩ (.int .u64 (ps : Int))).setCell ⟨w.heap.size, 2, none⟩ (.int .u32 (px : Int))).setCell ⟨w.heap.size, 3, none⟩ (.slice pA pn pc) = G := ⟨_, rfl⟩
          have hbg : Blk G w.heap.size 26 #[.int .i64 pk, .int .u64 (ps : Int), .int .u32 (px : Int), (.slice pA pn pc)] := by rw [← hG]; exact (((hbrz.set_ 0 _).set_ 1 _).set_ 2 _).set_ 3 _
          have hfG : Fr wa G (fun b => b = w.heap.size) := by
            rw [← hG]
            exact fr_set (fr_set (fr_set (fr_set (Fr.refl _ _) _ _) _ _) _ _) _ _
          have g0 := hbg.cell 0
          have g1 := hbg.cell 1
          have g2 := hbg.cell 2
          have g3 := hbg.cell 3
          simp only [List.getElem?_toArray, List.getElem?_cons_zero, List.getElem?_cons_succ] at g0 g1 g2 g3
          have HFG := Lib.hid hfG
          clear hbg hfG
          clear hbrz
          go_wp2_with fail
          refine bodyPost_ret (v := .tuple #[.agg #[.int .i64 pk, .int .u64 (ps : Int), .int .u32 (px : Int), .slice pA pn pc], .int .i64 0]) (by simp [results, Try.results26, go_sem, g0, g1, g2, g3]) rfl ?_
          refine ⟨⟨pk, ps, px, pA, pn, pc, pl⟩, ?_, S', T', ?_, ?_, ?_, ?_, ?_, fun y hy => ?_⟩
          · rw [HDT.out]; rfl
          · refine (HQO9.out.keep (Fr.of_below HBA.out No) (fun _ _ hn => hn) fun _ _ hn => hn).keep HFG.out (fun b hb e => ?_) fun b hb e => ?_
            · have := HQ.out.1 b hb; have := HF2.out.size; have := HB1.out.size; have := HSZ.out; omega
            · have := HQ.out.2.1 b hb; have := HF2.out.size; have := HB1.out.size; have := HSZ.out; omega
          · intro b hb; have := HQ.out.1 b hb; have := HF2.out.size; have := HB1.out.size; have := HSZ.out; omega
          · intro b hb; have := HQ.out.2.1 b hb; have := HF2.out.size; have := HB1.out.size; have := HSZ.out; omega
          · exact endBelow HBW.out HFZA.out (fun b hb => (HSR.out b hb).1) HFG.out
          · unfold decP
            rw [HDT.out, if_pos rfl]
            rw [← HR.out]
            exact ⟨HQ.out.2.2.2.1, HQ.out.2.2.2.2.1, HQ.out.2.2.2.2.2.1, HQ.out.2.2.1⟩
          · refine ((((HWB5.out y hy).keep (Fr.of_below HB6.out No) fun _ _ hn => hn).keep HF69.out fun b hb => HNS.out b (HQ.out.2.1 b hb)).keep (Fr.of_below HBA.out No) fun _ _ hn => hn).keep HFG.out fun b hb e => ?_
            have := HQ.out.2.1 b hb; have := HF2.out.size; have := HB1.out.size; have := HSZ.out; omega
  · have y0 : ((x : Int) != (y : Int)) = true := bne_iff_ne.2 (by omega)
    have HXY := Lib.hid hxy
    clear hxy
    refine wpAnyH_take (i := 5) (v := ?_) rfl (by kernel_rfl) (by kernel_rfl) (by kernel_rfl) (fun _ _ _ h => h) (Or.inl ⟨by rfl, ?_⟩) hS ?_
    rotate_left
    · (intro wq hSw; go_simp; try with_reducible rfl)
    simp only [List.getElem_toArray, List.getElem_cons_succ, List.getElem_cons_zero, Act.put, List.setIfInBounds_toArray, List.set_cons_succ, List.set_cons_zero]
    refine wpAnyH_done (by kernel_rfl) ?_ _
    clear hS
    have HDF := Lib.hid (show decOK l = false by
      have h6 := HX.out
      have h7 := HY.out
      have e3 : Cd.unfix (l.take 4) = x := by
        rw [h6]
        unfold fixO
        rw [show takeO l ((4 : Nat) : Int) = some (l.take 4, 4) from takeO_yes (by have := HLL.out; have := HNC.out; omega)]
        rfl
      unfold decOK
      rw [e3, ← h7, decide_eq_false HXY.out]
      simp)
    have HFZ2 : Hid (Fr W x2 SR) := Lib.hid ((Fr.of_below HB1.out SR).trans HF2.out fun _ hb => Or.inl hb)
    have hbrz := HBR.out.keep HFZ2.out (fun h => by have := (HSR.out _ h).1; have := HSZ.out; omega)
    have r0 := hbrz.cell 0
    have r1 := hbrz.cell 1
    have r2 := hbrz.cell 2
    have r3 := hbrz.cell 3
    have q0 := hbrz.frozen 0
    have q1 := hbrz.frozen 1
    have q2 := hbrz.frozen 2
    have q3 := hbrz.frozen 3
    simp only [List.getElem?_toArray, List.getElem?_cons_zero, List.getElem?_cons_succ] at r0 r1 r2 r3
    obtain ⟨G, hG⟩ : ∃ G, (((x2.setCell ⟨w.heap.size, 0, none⟩ (.int .i64 0)).setCell ⟨w.heap.size, 1, none⟩ (.int .u64 0)).setCell ⟨w.heap.size, 2, none⟩ (.int .u32 0)).setCell ⟨w.heap.size, 3, none⟩ (.slice none 0 0) = G := ⟨_, rfl⟩
    have hbg : Blk G w.heap.size 26 #[.int .i64 0, .int .u64 0, .int .u32 0, (.slice none 0 0)] := by rw [← hG]; exact (((hbrz.set_ 0 _).set_ 1 _).set_ 2 _).set_ 3 _
    have hfG : Fr x2 G (fun b => b = w.heap.size) := by
      rw [← hG]
      exact fr_set (fr_set (fr_set (fr_set (Fr.refl _ _) _ _) _ _) _ _) _ _
    have g0 := hbg.cell 0
    have g1 := hbg.cell 1
    have g2 := hbg.cell 2
    have g3 := hbg.cell 3
    simp only [List.getElem?_toArray, List.getElem?_cons_zero, List.getElem?_cons_succ] at g0 g1 g2 g3
    have HFG := Lib.hid hfG
    clear hbg hfG
    clear hbrz
    go_wp2_with fail
    refine bodyPost_ret (v := .tuple #[PV.zero.agg, .int .i64 5]) (by simp [results, Try.results26, go_sem, g0, g1, g2, g3, PV.agg, PV.zero]) rfl ?_
    refine ⟨PV.zero, ?_, DecBW.no HDF.out ?_⟩
    · rw [HDF.out]; rfl
    · exact endBelow HBW.out HFZ2.out (fun b hb => (HSR.out b hb).1) HFG.out
theorem decode_soft (w : World) (A : Option Addr) (n c : Nat) (l : List Nat) (hr : RB w All A n l) (hnc : n ≤ c) : Calls Try.prog 26 #[.slice A n c] w (DecW w l) := by
  by_cases h : n = 512
  · exact decode_full w A n c l hr h hnc
  · exact decode_short w A n c l hr.len h
theorem decode_any (w : World) (A : Option Addr) (n c : Nat) (l : List Nat) (hr : RB w All A n l) (hnc : n ≤ c) : Calls Try.prog 26 #[.slice A n c] w (DecO w l) := by
  refine (decode_soft w A n c l hr hnc).mono ?_
  rintro e w' ⟨q, he, S, T, a, b, c, d, f, _⟩
  exact ⟨q, he, S, T, a, b, c, d, f⟩
end Go.Proofs.Ytajmpoanmdgmpaa
