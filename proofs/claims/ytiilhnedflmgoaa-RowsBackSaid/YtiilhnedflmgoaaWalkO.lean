/-
  THE WALK OF read (2).
-/
import Derived.Test.YtiilhnedflmgoaaWalkN
import Derived.Deep.DeepCutAuto
namespace Go.Proofs.Ytiilhnedflmgoaa
open Go.RowKit Go.Sort

def ReadOut (w0 w : World) (S : Nat → Prop) (g : Nat) (cs : List C) (l : List Nat) (e : Ending) (w' : World) : Prop :=
  Below w0.heap.size w0 w' ∧
  ((e = .returned (.tuple #[.slice none 0 0, .bool false]) ∧ (l.length < mB cs.length ∨ beyond (l.take (mB cs.length)) cs.length = true)) ∨
   ∃ v row ok l', e = .returned (.tuple #[v, .bool true]) ∧ OwV w' (fun b => w.heap.size ≤ b) v cs.length row ∧ Rd w' (fun b => S b ∧ b < w.heap.size) (some g) ok l' ∧ mB cs.length ≤ l.length ∧ beyond (l.take (mB cs.length)) cs.length = false ∧ St (l.take (mB cs.length)) cs (l.drop (mB cs.length)) cs.length ok l' row)
theorem takeO_short {l : List Nat} {M : Nat} (h : ¬ M ≤ l.length) : takeO l (M : Int) = none := takeO_no (by omega)

def nil8 : Array Value := #[.nilFunc, .nilFunc, .nilFunc, .nilFunc, .nilFunc, .nilFunc, .nilFunc, .nilFunc]
theorem nil_facts {w : World} {g : Nat} (h : Blk w g 54 nil8) : (w.cell? ⟨g, 0, none⟩ = some .nilFunc ∧ w.cell? ⟨g, 1, none⟩ = some .nilFunc ∧ w.cell? ⟨g, 2, none⟩ = some .nilFunc ∧ w.cell? ⟨g, 3, none⟩ = some .nilFunc ∧ w.cell? ⟨g, 4, none⟩ = some .nilFunc ∧ w.cell? ⟨g, 5, none⟩ = some .nilFunc ∧ w.cell? ⟨g, 6, none⟩ = some .nilFunc ∧ w.cell? ⟨g, 7, none⟩ = some .nilFunc) ∧
    (w.frozen? ⟨g, 0, none⟩ = false ∧ w.frozen? ⟨g, 1, none⟩ = false ∧ w.frozen? ⟨g, 2, none⟩ = false ∧ w.frozen? ⟨g, 3, none⟩ = false ∧ w.frozen? ⟨g, 4, none⟩ = false ∧ w.frozen? ⟨g, 5, none⟩ = false ∧ w.frozen? ⟨g, 6, none⟩ = false ∧ w.frozen? ⟨g, 7, none⟩ = false) :=
  ⟨⟨h.cell 0, h.cell 1, h.cell 2, h.cell 3, h.cell 4, h.cell 5, h.cell 6, h.cell 7⟩, h.frozen 0, h.frozen 1, h.frozen 2, h.frozen 3, h.frozen 4, h.frozen 5, h.frozen 6, h.frozen 7⟩
/-- the eight functions are put into their block -/
def laid8 (w : World) (g : Nat) : World := (((((((w.setCell ⟨g, 0, none⟩ (.func (.func 40) #[] #[])).setCell ⟨g, 1, none⟩ (.func (.func 41) #[] #[])).setCell ⟨g, 2, none⟩ (.func (.func 42) #[] #[])).setCell ⟨g, 3, none⟩ (.func (.func 44) #[] #[])).setCell ⟨g, 4, none⟩ (.func (.func 46) #[] #[])).setCell ⟨g, 5, none⟩ (.func (.func 48) #[] #[])).setCell ⟨g, 6, none⟩ (.func (.func 50) #[] #[])).setCell ⟨g, 7, none⟩ (.func (.func 52) #[] #[])
theorem laid8_blk {w : World} {g : Nat} (h : Blk w g 54 nil8) : Blk (laid8 w g) g 54 formsA := by
  have := (((((((h.set_ 0 (.func (.func 40) #[] #[])).set_ 1 (.func (.func 41) #[] #[])).set_ 2 (.func (.func 42) #[] #[])).set_ 3 (.func (.func 44) #[] #[])).set_ 4 (.func (.func 46) #[] #[])).set_ 5 (.func (.func 48) #[] #[])).set_ 6 (.func (.func 50) #[] #[])).set_ 7 (.func (.func 52) #[] #[])
  exact this
theorem laid8_fr (w : World) (g : Nat) : Fr w (laid8 w g) (fun b => b = g) :=
  ((((((((Fr.refl w (fun b => b = g)).setCell (p := ⟨g, 0, none⟩) (Or.inl rfl) _).setCell (p := ⟨g, 1, none⟩) (Or.inl rfl) _).setCell (p := ⟨g, 2, none⟩) (Or.inl rfl) _).setCell (p := ⟨g, 3, none⟩) (Or.inl rfl) _).setCell (p := ⟨g, 4, none⟩) (Or.inl rfl) _).setCell (p := ⟨g, 5, none⟩) (Or.inl rfl) _).setCell (p := ⟨g, 6, none⟩) (Or.inl rfl) _).setCell (p := ⟨g, 7, none⟩) (Or.inl rfl) _
theorem Lx.make {w w2 wF : World} {R : Nat → Prop} {g gr gb n : Nat} {Am : Option Addr} {M : Nat} {m : List Nat} {l : List Nat} {row : List V} (hrd : Rd w2 R (some g) true l) (hmk : RB w2 (fun b => w.heap.size ≤ b) Am M m) (hfr : Fr w w2 R) (hR : ∀ b, R b → b < w.heap.size)
    (hbel : Below w2.heap.size w2 wF) (hrow : OwV wF (fun b => b = gr) (.slice (some ⟨gr, 0, none⟩) n n) n row) (hfm : Blk wF gb 54 formsA) (h1 : w2.heap.size ≤ gr) (h2 : w2.heap.size ≤ gb) (hne : gr ≠ gb) : Lx w wF R w.heap.size g gr gb n Am M m true l row := by
  have hs := hfr.size
  have hf := Fr.of_below hbel (fun _ => False)
  refine ⟨hrd.keep hf (fun _ _ hh => hh.elim), hrow, hfm, (hmk.keep hf (fun _ _ hh => hh.elim)).1 |> fun _ => ?_, Fr.trans hfr hf (fun b hh => hh.elim), hR, by omega, by omega, hne, Nat.le_refl _⟩
  have hm2 : RB w2 (fun b => w.heap.size ≤ b ∧ b ≠ gr ∧ b ≠ gb) Am M m := hmk.mono fun b hb hh => ⟨hh, by omega, by omega⟩
  exact hm2.keep hf (fun _ _ hh => hh.elim)

set_option maxRecDepth 100000 in
set_option maxHeartbeats 16000000 in
theorem read_any (w0 w : World) (S : Nat → Prop) (g : Nat) (l : List Nat) (A : Option Addr) (n c : Nat) (cs : List C) (hc : RC w0 A n cs) (hb : Below w0.heap.size w0 w) (hS : ∀ b, S b → w0.heap.size ≤ b) (hr : Rd w S (some g) true l) (hmay : mayC cs = true) :
    Calls Try.prog 36 #[ptr (some g), .slice A n c] w (ReadOut w0 w S g cs l) := by
  have hlc := Lib.hid hc.1
  have HC := Lib.hid hc
  have HB := Lib.hid hb
  have HMAY := Lib.hid hmay
  have HS := Lib.hid hS
  have hn16 : 1 ≤ n ∧ n ≤ 16 := by
    have := (mayC_iff cs).1 hmay
    rw [hc.1] at this
    exact ⟨this.1, this.2.1⟩
  obtain ⟨hn1, hn16⟩ := hn16
  have hsz := hb.size
  have hM3 : mB n ≤ 3 := by unfold mB; omega
  have hM8 : n ≤ 8 * mB n := by unfold mB; omega
  have HME : Hid (mB cs.length = mB n) := by show _ = _; rw [hc.1]
  have HMB := Lib.hid (fun W => markBytes_any n (by omega) W)
  have HU := Lib.hid hr.up
  have HLL := Lib.hid hr.lt
  have HLN := Lib.hid hr.len
  unfold ReadOut
  rw [HME.out]
  generalize mB n = M at *
  have HRW := Lib.hid (rraw_any w _ (some g) true l (M : Int) (by omega) (by omega) hr.up)
  have hR1 : Hid (∀ b, (S b ∧ b < w.heap.size) → w0.heap.size ≤ b) := fun b h => HS.out b h.1
  have hR2 : Hid (∀ b, (S b ∧ b < w.heap.size) → b < w.heap.size) := fun b h => h.2
  obtain ⟨R, hR⟩ : ∃ R : Nat → Prop, R = (fun b => S b ∧ b < w.heap.size) := ⟨_, rfl⟩
  rw [← hR] at HRW ⊢
  have hR1 : Hid (∀ b, R b → w0.heap.size ≤ b) := by rw [hR]; exact hR1
  have hR2 : Hid (∀ b, R b → b < w.heap.size) := by rw [hR]; exact hR2
  clear hc hb hmay hS hr HS HU hR
  simp only [ptr, Option.map] at HRW ⊢
  go_enter Try.func36, Try.ntmps36
  go_wp2_with fail
  refine (HMB.out _).mono ?_
  rintro e w9 ⟨rfl, rfl⟩
  go_wp2_with fail
  refine HRW.out.mono ?_
  rintro e w1 ⟨v1, k1, rfl, hk1, ho1, hg1⟩
  clear HRW HMB
  by_cases hml : M ≤ l.length
  · rw [takeO_yes hml] at hk1 ho1 hg1
    simp only [valO] at hk1 ho1
    have hk1' : k1 = M := by rw [hk1, List.length_take]; omega
    subst hk1'
    obtain ⟨Am, cm, rfl, _, _, hrm⟩ := ho1.reads
    obtain ⟨hrd, hfr⟩ := hg1
    simp only [okO, leftO, Option.isSome, Bool.and_true] at hrd
    have hsz1 := hfr.size
    have HRM := Lib.hid hrm
    have HRD := Lib.hid hrd
    have HFR := Lib.hid hfr
    have HER := Lib.hid (err_any w1 R (some g) true (l.drop k1) hrd)
    have HBY := Lib.hid (marksBeyond_any _ Am k1 cm (l.take k1) n w1 hrm (by omega))
    clear hk1 ho1 hrm hrd hfr
    simp only [ptr, Option.map, errOf] at HER
    go_wp2_with fail
    refine HER.out.mono ?_
    rintro e w9 ⟨rfl, rfl⟩
    cases hby : beyond (l.take k1) n with
    | true =>
      rw [hby] at HBY
      have HN : Hid (beyond (l.take k1) cs.length = true) := by show _ = _; rw [hlc.out]; exact hby
      clear hby
      go_wp2_with fail
      refine HBY.out.mono ?_
      rintro e w2 ⟨rfl, hb2⟩
      have HB2 := Lib.hid hb2
      clear hb2
      go_wp2
      go_ret2
      refine ⟨?_, Or.inl ⟨rfl, Or.inr HN.out⟩⟩
      exact (HB.out.trans ((HFR.out.below hR1.out hsz))).trans (HB2.out.mono (by omega))
    | false =>
      rw [hby] at HBY
      have HN : Hid (beyond (l.take k1) cs.length = false) := by show _ = _; rw [hlc.out]; exact hby
      clear hby
      go_wp2_with fail
      refine HBY.out.mono ?_
      rintro e w2 ⟨rfl, hb2⟩
      have hsz2 := hb2.size
      have HB2 := Lib.hid hb2
      clear hb2
      go_wp2_with fail
      have hsz1' := HFR.out.size
      have HRD2 : Hid (Rd w2 R (some g) true (l.drop k1)) := HRD.out.keep (Fr.of_below HB2.out (fun _ => False)) (fun _ _ hh => hh.elim)
      have HRM2 : Hid (RB w2 (fun b => w.heap.size ≤ b) Am k1 (l.take k1)) := HRM.out.keep (Fr.of_below HB2.out (fun _ => False)) (fun _ _ hh => hh.elim)
      have HFR2 : Hid (Fr w w2 R) := Fr.trans HFR.out (Fr.of_below HB2.out (fun _ => False)) (fun b hh => hh.elim)
      have HMK := Lib.hid (fun (wF : World) (gr gb : Nat) (row : List V) h1 h2 h3 h4 h5 h6 => Lx.make (wF := wF) (gr := gr) (gb := gb) (n := n) (row := row) HRD2.out HRM2.out HFR2.out hR2.out h1 h2 h3 h4 h5 h6)
      go_cut [7, 8] from 26 to 29 (fun v7 v8 wx => ∃ gr gb, v7 = .slice (some ⟨gr, 0, none⟩) n n ∧ v8 = .pointer (some ⟨gb, 0, none⟩) ∧ Lx w wx R w.heap.size g gr gb n Am k1 (l.take k1) true (l.drop k1) (List.replicate n v0))
      case first =>
        have HMV := Lib.hid (fun u => run_mkV n (by omega) u)
        have hm1 := HMV.out w2.drew
        have hm2 := HMV.out (w2.alloc (.cells nil8 54)).drew
        have hFM := Lib.hid (fun W => forms_any W)
        unfold formsA at hFM
        unfold nil8 at hm2
        clear HRM HRD HFR HB HB2 HC HER HBY HRD2 HRM2 HFR2
        go_region_with (refine (hFM.out _).mono ?_; rintro e w3 ⟨rfl, hb3⟩; have HB3 := Lib.hid hb3; have hm3 := HMV.out w3; have hm4 := HMV.out (w3.alloc (.cells nil8 54)); have HN0 := Lib.hid ((Blk.new w3 54 nil8).alloc (.cells (vcs (List.replicate n v0)).toArray 40)); obtain ⟨⟨x0, x1, x2, x3, x4, x5, x6, x7⟩, y0, y1, y2, y3, y4, y5, y6, y7⟩ := nil_facts HN0.out; unfold nil8 at hm4 x0 x1 x2 x3 x4 x5 x6 x7 y0 y1 y2 y3 y4 y5 y6 y7; first | (have hbk : Blk w3 w2.heap.size 54 nil8 := (by first | exact Blk.below (Blk.drew (Blk.new w2 54 nil8)) hb3 (by simp) | exact Blk.below (Blk.drew ((Blk.new w2 54 nil8).alloc (.cells (vcs (List.replicate n v0)).toArray 40))) hb3 (by simp; omega)); have HN1 := Lib.hid hbk; have HN2 := Lib.hid (hbk.alloc (.cells (vcs (List.replicate n v0)).toArray 40)); obtain ⟨⟨p0, p1, p2, p3, p4, p5, p6, p7⟩, q0, q1, q2, q3, q4, q5, q6, q7⟩ := nil_facts HN1.out; obtain ⟨⟨r0, r1, r2, r3, r4, r5, r6, r7⟩, s0, s1, s2, s3, s4, s5, s6, s7⟩ := nil_facts HN2.out; clear hbk) | (have hbk : Blk w3 (w2.heap.size + 1) 54 nil8 := (by exact (show w2.heap.size + 1 = (w2.alloc (.cells (vcs (List.replicate n v0)).toArray 40)).heap.size by simp) ▸ Blk.below (Blk.drew (Blk.new (w2.alloc (.cells (vcs (List.replicate n v0)).toArray 40)) 54 nil8)) hb3 (by simp)); have HN1 := Lib.hid hbk; obtain ⟨⟨p0, p1, p2, p3, p4, p5, p6, p7⟩, q0, q1, q2, q3, q4, q5, q6, q7⟩ := nil_facts HN1.out; clear hbk) | skip; clear hb3)
        all_goals
          go_wp2_with fail
          go_meet
        · refine ⟨_, _, rfl, rfl, HMK.out _ _ _ _ ?_ ?_ (Blk.new w3 54 formsA) (Nat.le_refl _) ?_ ?_⟩
          · exact (((((Below.refl _ w2).alloc (Nat.le_refl _) (.cells (vcs (List.replicate n v0)).toArray 40)).drew).trans (HB3.out.mono (by simp)))).alloc (by have := HB3.out.size; simp at this; omega) _
          · exact ((OwV.zeros w2 (fun b => b = w2.heap.size) n (by omega) rfl).drew.up5 HB3.out).alloc _
          · have := HB3.out.size; simp at this; omega
          · have := HB3.out.size; simp at this; omega
        · refine ⟨_, _, rfl, rfl, HMK.out _ _ _ _ ?_ ?_ (laid8_blk HN1.out) (Nat.le_refl _) (by omega) (by omega)⟩
          · have h1 : Below w2.heap.size w2 w3 := (((((Below.refl _ w2).alloc (Nat.le_refl _) (.cells (vcs (List.replicate n v0)).toArray 40)).alloc (by simp) (.cells nil8 54))).drew).trans (HB3.out.mono (by simp; omega))
            exact h1.trans ((laid8_fr w3 (w2.heap.size + 1)).below (fun b e => by omega) h1.size)
          · exact (((OwV.zeros w2 (fun b => b = w2.heap.size) n (by omega) rfl).alloc (.cells nil8 54)).drew.up5 HB3.out).keep (laid8_fr w3 (w2.heap.size + 1)) (fun b e1 e2 => by omega)
        · refine ⟨_, _, rfl, rfl, HMK.out _ _ _ _ ?_ ((OwV.zeros w3 (fun b => b = w3.heap.size) n (by omega) rfl).alloc _) (by have hz : Blk ((w3.alloc (.cells (vcs (List.replicate n v0)).toArray 40)).alloc (.cells formsA 54)) (w3.heap.size + 1) 54 formsA := (by simpa using Blk.new (w3.alloc (.cells (vcs (List.replicate n v0)).toArray 40)) 54 formsA); exact hz) ?_ ?_ (by omega)⟩
          · have h1 : Below w2.heap.size w2 w3 := (Below.refl w2.heap.size w2).drew.trans HB3.out
            exact (h1.alloc h1.size _).alloc (by have := h1.size; simp; omega) _
          · have := HB3.out.size; simp at this; omega
          · have := HB3.out.size; simp at this; omega
        · refine ⟨_, _, rfl, rfl, HMK.out _ _ _ _ ?_ (by have hz : OwV ((w3.alloc (.cells formsA 54)).alloc (.cells (vcs (List.replicate n v0)).toArray 40)) (fun b => b = w3.heap.size + 1) (.slice (some ⟨w3.heap.size + 1, 0, none⟩) n n) n (List.replicate n v0) := (by simpa using OwV.zeros (w3.alloc (.cells formsA 54)) (fun b => b = w3.heap.size + 1) n (by omega) (by simp)); exact hz) ((Blk.new w3 54 formsA).alloc _) ?_ ?_ (by omega)⟩
          · have h1 : Below w2.heap.size w2 w3 := (Below.refl w2.heap.size w2).drew.trans HB3.out
            exact (h1.alloc h1.size _).alloc (by have := h1.size; simp; omega) _
          · have := HB3.out.size; simp at this; omega
          · have := HB3.out.size; simp at this; omega
        · refine ⟨_, _, rfl, rfl, HMK.out _ _ _ _ ?_ ?_ (laid8_blk HN1.out) (by omega) (Nat.le_refl _) (by omega)⟩
          · have h1 : Below w2.heap.size w2 w3 := (((((Below.refl _ w2).alloc (Nat.le_refl _) (.cells nil8 54)).alloc (by simp) (.cells (vcs (List.replicate n v0)).toArray 40))).drew).trans (HB3.out.mono (by simp; omega))
            exact h1.trans ((laid8_fr w3 w2.heap.size).below (fun b e => by omega) h1.size)
          · have hz : OwV ((w2.alloc (.cells nil8 54)).alloc (.cells (vcs (List.replicate n v0)).toArray 40)) (fun b => b = w2.heap.size + 1) (.slice (some ⟨w2.heap.size + 1, 0, none⟩) n n) n (List.replicate n v0) := by
              simpa using OwV.zeros (w2.alloc (.cells nil8 54)) (fun b => b = w2.heap.size + 1) n (by omega) (by simp)
            exact (hz.drew.up5 HB3.out).keep (laid8_fr w3 w2.heap.size) (fun b e1 e2 => by omega)
        · have h1 : Below w2.heap.size w2 w3 := ((((Below.refl _ w2).alloc (Nat.le_refl _) (.cells nil8 54))).drew).trans (HB3.out.mono (by simp))
          have hs3 := h1.size
          have hs4 := HB3.out.size
          simp at hs4
          refine ⟨_, _, rfl, rfl, HMK.out _ _ _ _ ?_ ?_ (laid8_blk HN2.out) (by omega) (Nat.le_refl _) (by omega)⟩
          · exact (h1.alloc hs3 _).trans ((laid8_fr _ w2.heap.size).below (fun b e => by omega) (by simp; omega))
          · exact (OwV.zeros w3 (fun b => b = w3.heap.size) n (by omega) rfl).keep (laid8_fr _ w2.heap.size) (fun b e1 e2 => by omega)
      case rest =>
        obtain ⟨gr, gb, rfl, rfl, hx⟩ := hcut
        have HX := Lib.hid hx
        have HST := Lib.hid (St.start (l.take k1) cs (l.drop k1) (List.replicate n v0) (by rw [hlc.out]; simp))
        clear hx HMK HRD HRM HFR HB2 HER HBY HRD2 HRM2 HFR2
        go_wp2
        go_loopw [32] (fun i wr => ∃ (k : Nat) (ok : Bool) (l' : List Nat) (row : List V), k ≤ n ∧ i = .int .i64 (k : Int) ∧ Lx w wr R w.heap.size g gr gb n Am k1 (l.take k1) ok l' row ∧ St (l.take k1) cs (l.drop k1) k ok l' row) (fun i _ => n - (intOf i).toNat)
        case atStart => exact ⟨0, true, _, _, by omega, rfl, HX.out, HST.out⟩
        case round =>
          obtain ⟨k, ok, l', row, hk, rfl, hx, hst⟩ := hrel
          clear HX HST
          have HX := Lib.hid hx
          have HST := Lib.hid hst
          have hbw := (HB.out.trans (hx.fr.below hR1.out hsz))
          have HBW := Lib.hid hbw
          clear hx hst hbw
          by_cases hlt : k < n
          · obtain ⟨gc, oc, cc, rfl, hg, hcv, hcok, b0, b1, b2⟩ := (HC.out.below HBW.out).at_ hlt
            have hck := kind_of HMAY.out (List.mem_of_getElem? hcv)
            have hst2 := HST.out.step hcv hck
            obtain ⟨cn, ck, cd⟩ := cc
            simp only at b0 b1 b2 hck hst2
            have HX1 := Lib.hid (HX.out.alloc (.cells #[.string cn, .int .i64 ck, .bool cd] 45))
            have HBX := Lib.hid (BoxC.new wr cn ck cd)
            have HIM := Lib.hid (isMarked_any _ Am k1 cm (l.take k1) k _ HX1.out.mk_ (by omega) (by omega))
            clear hcv hcok
            cases hbt : bitAt (l.take k1) k with
            | true =>
              rw [hbt] at HIM hst2
              simp only [if_true] at hst2
              have hvk : 0 ≤ (0 : Int) ∧ (0 : Int) ≤ 3 := by omega
              have hvo := Lib.hid (rdP_ok (ok := ok) hvk HX.out.rd.lt HX.out.rd.len)
              have HP := Lib.hid (fun (W : World) (h : Rd W R (some g) ok l') => par0 W R g ok l' h)
              unfold Par at HP
              obtain ⟨q, hq⟩ : ∃ q, q = rdP 0 ok l' := ⟨_, rfl⟩
              rw [← hq] at hst2 hvo
              simp only [← hq] at HP
              clear hq hbt hvk
              obtain ⟨⟨qk, qn, qs⟩, qo, ql⟩ := q
              have HST2 := Lib.hid hst2
              simp only [ptr, Option.map] at HP
              simp only at HST2 hvo
              clear hst2
              go_wp2_with fail
              refine HIM.out.mono ?_
              rintro e w4 ⟨rfl, hb4⟩
              have HX4 := Lib.hid (HX1.out.below hb4)
              obtain ⟨m0, m1, m2⟩ := HBX.out.up hb4
              obtain ⟨c0, c1, c2, c3⟩ := HX4.out.cells
              have HC4 := Lib.hid (HP.out w4 HX4.out.rd)
              clear hb4 HIM HBX HX1 HP
              simp only [Nat.zero_add] at m0 m1 m2
              go_wp2_with fail
              refine HC4.out.mono ?_
              rintro e w5 ⟨rfl, hrd5, hfr5⟩
              have HX5 := Lib.hid (HX4.out.read hrd5 hfr5)
              obtain ⟨g7, cap7, e7, hS7, ⟨q0, q1, q2, d0, d1, d2⟩, ⟨f0, f1, f2⟩, hset⟩ := slot_at HX5.out.row_ hlt
              injection e7 with e7 e8 e9
              injection e7 with e7
              injection e7 with e7
              subst e7 e9
              have HPT := Lib.hid (HX5.out.put (hset ⟨qk, qn, qs⟩ hvo.out))
              clear hrd5 hfr5 hset HC4 hS7
              go_wp2
              go_roundw
              case rel => exact ⟨k + 1, qo, ql, _, by omega, by go_num, HPT.out, HST2.out⟩
              case measure => simp [intOf]; omega
            | false =>
              rw [hbt] at HIM hst2
              simp only [Bool.false_eq_true, if_false] at hst2
              rcases hck with rfl | rfl | rfl
              · skip
                have hvk : 0 ≤ (1 : Int) ∧ (1 : Int) ≤ 3 := by omega
                have hvo := Lib.hid (rdP_ok (ok := ok) hvk HX.out.rd.lt HX.out.rd.len)
                have HP := Lib.hid (fun (W : World) (h : Rd W R (some g) ok l') => par1 W R g ok l' h)
                unfold Par at HP
                obtain ⟨q, hq⟩ : ∃ q, q = rdP 1 ok l' := ⟨_, rfl⟩
                rw [← hq] at hst2 hvo
                simp only [← hq] at HP
                clear hq hbt hvk
                obtain ⟨⟨qk, qn, qs⟩, qo, ql⟩ := q
                have HST2 := Lib.hid hst2
                simp only [ptr, Option.map] at HP
                simp only at HST2 hvo
                clear hst2
                go_wp2_with fail
                refine HIM.out.mono ?_
                rintro e w4 ⟨rfl, hb4⟩
                have HX4 := Lib.hid (HX1.out.below hb4)
                obtain ⟨m0, m1, m2⟩ := HBX.out.up hb4
                obtain ⟨c0, c1, c2, c3⟩ := HX4.out.cells
                have HC4 := Lib.hid (HP.out w4 HX4.out.rd)
                clear hb4 HIM HBX HX1 HP
                simp only [Nat.zero_add] at m0 m1 m2
                go_wp2_with fail
                refine HC4.out.mono ?_
                rintro e w5 ⟨rfl, hrd5, hfr5⟩
                have HX5 := Lib.hid (HX4.out.read hrd5 hfr5)
                obtain ⟨g7, cap7, e7, hS7, ⟨q0, q1, q2, d0, d1, d2⟩, ⟨f0, f1, f2⟩, hset⟩ := slot_at HX5.out.row_ hlt
                injection e7 with e7 e8 e9
                injection e7 with e7
                injection e7 with e7
                subst e7 e9
                have HPT := Lib.hid (HX5.out.put (hset ⟨qk, qn, qs⟩ hvo.out))
                clear hrd5 hfr5 hset HC4 hS7
                go_wp2
                go_roundw
                case rel => exact ⟨k + 1, qo, ql, _, by omega, by go_num, HPT.out, HST2.out⟩
                case measure => simp [intOf]; omega
              · skip
                have hvk : 0 ≤ (2 : Int) ∧ (2 : Int) ≤ 3 := by omega
                have hvo := Lib.hid (rdP_ok (ok := ok) hvk HX.out.rd.lt HX.out.rd.len)
                have HP := Lib.hid (fun (W : World) (h : Rd W R (some g) ok l') => par2 W R g ok l' h)
                unfold Par at HP
                obtain ⟨q, hq⟩ : ∃ q, q = rdP 2 ok l' := ⟨_, rfl⟩
                rw [← hq] at hst2 hvo
                simp only [← hq] at HP
                clear hq hbt hvk
                obtain ⟨⟨qk, qn, qs⟩, qo, ql⟩ := q
                have HST2 := Lib.hid hst2
                simp only [ptr, Option.map] at HP
                simp only at HST2 hvo
                clear hst2
                go_wp2_with fail
                refine HIM.out.mono ?_
                rintro e w4 ⟨rfl, hb4⟩
                have HX4 := Lib.hid (HX1.out.below hb4)
                obtain ⟨m0, m1, m2⟩ := HBX.out.up hb4
                obtain ⟨c0, c1, c2, c3⟩ := HX4.out.cells
                have HC4 := Lib.hid (HP.out w4 HX4.out.rd)
                clear hb4 HIM HBX HX1 HP
                simp only [Nat.zero_add] at m0 m1 m2
                go_wp2_with fail
                refine HC4.out.mono ?_
                rintro e w5 ⟨rfl, hrd5, hfr5⟩
                have HX5 := Lib.hid (HX4.out.read hrd5 hfr5)
                obtain ⟨g7, cap7, e7, hS7, ⟨q0, q1, q2, d0, d1, d2⟩, ⟨f0, f1, f2⟩, hset⟩ := slot_at HX5.out.row_ hlt
                injection e7 with e7 e8 e9
                injection e7 with e7
                injection e7 with e7
                subst e7 e9
                have HPT := Lib.hid (HX5.out.put (hset ⟨qk, qn, qs⟩ hvo.out))
                clear hrd5 hfr5 hset HC4 hS7
                go_wp2
                go_roundw
                case rel => exact ⟨k + 1, qo, ql, _, by omega, by go_num, HPT.out, HST2.out⟩
                case measure => simp [intOf]; omega
              · skip
                have hvk : 0 ≤ (3 : Int) ∧ (3 : Int) ≤ 3 := by omega
                have hvo := Lib.hid (rdP_ok (ok := ok) hvk HX.out.rd.lt HX.out.rd.len)
                have HP := Lib.hid (fun (W : World) (h : Rd W R (some g) ok l') => par3 W R g ok l' h)
                unfold Par at HP
                obtain ⟨q, hq⟩ : ∃ q, q = rdP 3 ok l' := ⟨_, rfl⟩
                rw [← hq] at hst2 hvo
                simp only [← hq] at HP
                clear hq hbt hvk
                obtain ⟨⟨qk, qn, qs⟩, qo, ql⟩ := q
                have HST2 := Lib.hid hst2
                simp only [ptr, Option.map] at HP
                simp only at HST2 hvo
                clear hst2
                go_wp2_with fail
                refine HIM.out.mono ?_
                rintro e w4 ⟨rfl, hb4⟩
                have HX4 := Lib.hid (HX1.out.below hb4)
                obtain ⟨m0, m1, m2⟩ := HBX.out.up hb4
                obtain ⟨c0, c1, c2, c3⟩ := HX4.out.cells
                have HC4 := Lib.hid (HP.out w4 HX4.out.rd)
                clear hb4 HIM HBX HX1 HP
                simp only [Nat.zero_add] at m0 m1 m2
                go_wp2_with fail
                refine HC4.out.mono ?_
                rintro e w5 ⟨rfl, hrd5, hfr5⟩
                have HX5 := Lib.hid (HX4.out.read hrd5 hfr5)
                obtain ⟨g7, cap7, e7, hS7, ⟨q0, q1, q2, d0, d1, d2⟩, ⟨f0, f1, f2⟩, hset⟩ := slot_at HX5.out.row_ hlt
                injection e7 with e7 e8 e9
                injection e7 with e7
                injection e7 with e7
                subst e7 e9
                have HPT := Lib.hid (HX5.out.put (hset ⟨qk, qn, qs⟩ hvo.out))
                clear hrd5 hfr5 hset HC4 hS7
                go_wp2
                go_roundw
                case rel => exact ⟨k + 1, qo, ql, _, by omega, by go_num, HPT.out, HST2.out⟩
                case measure => simp [intOf]; omega
          · obtain rfl : k = n := by omega
            have HD : Hid (St (l.take k1) cs (l.drop k1) cs.length ok l' row) := by show St _ _ _ _ _ _ _; rw [hlc.out]; exact HST.out
            go_wp2
            go_ret2
            refine ⟨HBW.out, Or.inr ⟨_, row, ok, l', rfl, ?_, HX.out.rd, hml, HN.out, HD.out⟩⟩
            rw [hlc.out]
            exact HX.out.row_.mono fun b _ e => by have := HX.out.hr; omega
  · rw [takeO_short hml] at hk1 ho1 hg1
    simp only [valO] at hk1 ho1
    obtain ⟨Am, cm, rfl, _, _, hrm⟩ := ho1.reads
    obtain ⟨hrd, hfr⟩ := hg1
    simp only [okO, leftO, Option.isSome, Bool.and_false] at hrd
    have HFR := Lib.hid hfr
    have HER := Lib.hid (err_any w1 R (some g) false l hrd)
    clear hk1 ho1 hrm hrd hfr
    simp only [ptr, Option.map, errOf] at HER
    go_wp2_with fail
    refine HER.out.mono ?_
    rintro e w9 ⟨rfl, rfl⟩
    go_wp2
    go_ret2
    exact ⟨HB.out.trans ((HFR.out.below hR1.out hsz)), Or.inl ⟨rfl, Or.inl (by omega)⟩⟩
end Go.Proofs.Ytiilhnedflmgoaa
