/-
  THE WALK OF Encode.
-/
import Derived.Test.YtiilhnedflmgoaaWalkK
namespace Go.Proofs.Ytiilhnedflmgoaa
open Go.RowKit Go.Sort

/-- the outcome of Encode -/
def Enc (w : World) (cs : List C) (vs : List V) (e : Ending) (w' : World) : Prop := e = .returned (.tuple #[.string (encS cs vs), .int .i64 (encE cs vs)]) ∧ Below w.heap.size w w'
/-- what Encode's loop carries on -/
structure Ex (w wr : World) (g gb : Nat) (l : List Nat) : Prop where
  wr_ : Wr wr (fun b => w.heap.size ≤ b ∧ b ≠ gb) (some g) true l
  fm : Blk wr gb 54 formsA
  bel : Below w.heap.size w wr
theorem Ex.box {w wr : World} {g gb : Nat} {l : List Nat} (h : Ex w wr g gb l) (o : Obj) : Ex w (wr.alloc o) g gb l := ⟨h.wr_.box o, h.fm.alloc o, h.bel.alloc h.bel.size o⟩
theorem Ex.drew {w wr : World} {g gb : Nat} {l : List Nat} (h : Ex w wr g gb l) : Ex w wr.drew g gb l := ⟨h.wr_.drew, h.fm.drew, h.bel.drew⟩
theorem Ex.wrote {w wr w1 : World} {g gb : Nat} {l k : List Nat} (h : Ex w wr g gb l) (h1 : Wr w1 (Up (fun b => w.heap.size ≤ b ∧ b ≠ gb) wr) (some g) true (l ++ k)) (h2 : Fr wr w1 (fun b => w.heap.size ≤ b ∧ b ≠ gb)) : Ex w w1 g gb (l ++ k) := by
  have hlt := h.fm.lt
  have hsz := h.bel.size
  refine ⟨h1.mono fun b _ hb => ?_, h.fm.keep h2 (fun e => e.2 rfl), h.bel.trans (h2.below (fun b hb => hb.1) hsz)⟩
  rcases hb with hb | hb
  · exact hb
  · exact ⟨by omega, by omega⟩
theorem Ex.cells {w wr : World} {g gb : Nat} {l : List Nat} (h : Ex w wr g gb l) : wr.cell? ⟨gb, 0, none⟩ = some (.func (.func 40) #[] #[]) ∧ wr.cell? ⟨gb, 2, none⟩ = some (.func (.func 42) #[] #[]) ∧ wr.cell? ⟨gb, 4, none⟩ = some (.func (.func 46) #[] #[]) ∧ wr.cell? ⟨gb, 6, none⟩ = some (.func (.func 50) #[] #[]) :=
  ⟨h.fm.cell 0, h.fm.cell 2, h.fm.cell 4, h.fm.cell 6⟩
theorem ones_next {vs : List V} {k : Nat} {v : V} (h : vs[k]? = some v) : ones (vs.take (k + 1)) = ones (vs.take k) ++ one v := by
  rw [take_next h, ones_append]
  simp [ones]
theorem up_trans {B : Nat} {a w w' : World} (h : Below B a w) (k : Below w.heap.size w w') (hB : B ≤ w.heap.size) : Below B a w' := h.trans (k.mono hB)

set_option maxRecDepth 100000 in
set_option maxHeartbeats 8000000 in
theorem encode_any (A : Option Addr) (n c : Nat) (cs : List C) (B : Option Addr) (m d : Nat) (vs : List V) (w : World) (ha : RC w A n cs) (hb : RV w B m vs) (hnc : n ≤ c) :
    Calls Try.prog 15 #[.slice A n c, .slice B m d] w (Enc w cs vs) := by
  have hlb := Lib.hid hb.1
  have hok := Lib.hid hb.2.1
  have HB := Lib.hid hb
  have HF := Lib.hid (fits_any A n c cs B m d vs w ha hb hnc)
  unfold Enc
  by_cases h0 : fitsE cs vs = 0
  · obtain ⟨hmc, hlen, hf2⟩ := fitsE_zero h0
    have hmay := Lib.hid (fits2_may hlen hf2)
    have hm16 : m ≤ 16 := by
      have := ((mayC_iff cs).1 hmc).2.1
      rw [← hlb.out, hlen]
      exact this
    have H0 := Lib.hid h0
    rw [h0] at HF
    clear ha hb h0 hmc hlen hf2
    go_enter Try.func15, Try.ntmps15
    go_wp2_with fail
    refine HF.out.mono ?_
    rintro e w1 ⟨rfl, hb1⟩
    have HW1 := Lib.hid hb1
    have hsz1 := hb1.size
    clear hb1 HF
    go_wp2_with fail
    refine (newWriter_any w1).mono ?_
    rintro e w2 ⟨rfl, hw2, hb2⟩
    have HR2 := Lib.hid hw2
    have HW2 := Lib.hid (below_trans HW1.out hb2)
    have hsz2 := hb2.size
    clear hw2 hb2 HW1
    simp only [ptr, Option.map]
    go_wp2_with fail
    have HFM := Lib.hid (forms_any w2)
    unfold formsA at HFM
    refine HFM.out.mono ?_
    rintro e w3 ⟨rfl, hb3⟩
    have hsz3 := hb3.size
    have hex : Ex w (w3.alloc (.cells formsA 54)) w1.heap.size w3.heap.size [] := by
      have hk := (HR2.out.up).keep (Fr.of_below hb3 (fun _ => False)) (fun _ _ h => h.elim)
      exact ⟨(Wr.mono hk fun b hb hs => ⟨by omega, by omega⟩).box _, Blk.new w3 54 _, (below_trans HW2.out hb3).alloc (by omega) _⟩
    have HE := Lib.hid hex
    unfold formsA at HE
    clear hex hb3 HR2
    have HM := Lib.hid (marksOf_any B m d vs _ (HB.out.below HE.out.bel) (by omega))
    go_wp2_with fail
    refine HM.out.mono ?_
    rintro e w5 ⟨v5, rfl, ho5, hb5⟩
    obtain ⟨A5, c5, rfl, _, _, hr5⟩ := ho5.reads
    have hml : (marks vs).length ≤ 3 := by rw [marks_len, hlb.out]; unfold mB; omega
    have hk5 : Ex w w5 w1.heap.size w3.heap.size [] := by
      have h := HE.out
      refine ⟨?_, h.fm.below hb5 h.fm.lt, below_trans h.bel hb5⟩
      exact (Wr.keep (Wr.up h.wr_) (Fr.of_below hb5 (fun _ => False)) (fun _ _ hh => hh.elim)).mono fun b _ hh => hh.1
    have HE5 := Lib.hid hk5
    have HRW := Lib.hid (wraw_any w5 _ _ _ true [] A5 _ c5 _ hr5 (by omega) (by simp) hk5.wr_)
    clear HE HM ho5 hb5 hr5 hk5
    simp only [ptr, Option.map] at HRW
    go_wp2_with fail
    refine HRW.out.mono ?_
    rintro e w6 ⟨rfl, hw6⟩
    have HX := Lib.hid (HE5.out.wrote hw6.1 hw6.2)
    clear hw6 HRW HE5
    go_wp2
    go_loopw [25] (fun i wr => ∃ k : Nat, k ≤ m ∧ i = .int .i64 (k : Int) ∧ Ex w wr w1.heap.size w3.heap.size (marks vs ++ ones (vs.take k))) (fun i _ => m - (intOf i).toNat)
    case atStart => exact ⟨0, by omega, rfl, by simpa [ones] using HX.out⟩
    case round =>
      obtain ⟨k, hk, rfl, hx⟩ := hrel
      clear HX
      have HX := Lib.hid hx
      have hbl := Lib.hid hx.bel
      clear hx
      have hll : (marks vs ++ ones (vs.take k)).length ≤ 3 + 74 * 16 := by
        have h1 := ones_len (vs.take k) (by have := hmay.out; rw [List.all_eq_true] at this ⊢; exact fun x hx => this x (List.mem_of_mem_take hx)) (fun v hv => (hok.out v (List.mem_of_mem_take hv)).n)
        have h2 : (vs.take k).length ≤ 16 := by simp; omega
        simp only [List.length_append]
        omega
      by_cases hlt : k < m
      · obtain ⟨go, oo, v, rfl, hg, hv, hvok, b0, b1, b2⟩ := (HB.out.below hbl.out).at_ hlt
        have hm : v.may = true := List.all_eq_true.1 hmay.out v (List.mem_of_getElem? hv)
        have hn := Lib.hid (ones_next hv)
        obtain ⟨vk, vn, vt⟩ := v
        replace hm : may vk vn vt = true := hm
        have hN := hvok.n
        obtain ⟨hn1, hn2⟩ := hN
        simp only at b0 b1 b2 hn1 hn2
        have hk4 := may_kind hm
        have hk4 : vk = 0 ∨ vk = 1 ∨ vk = 2 ∨ vk = 3 := by omega
        clear hv hvok
        rcases hk4 with rfl | rfl | rfl | rfl
        · skip
          rw [one0 rfl] at hn
          have hx2 := (HX.out.box (.cells #[.int .i64 0, .int .i64 vn, .string vt] 40)).drew
          have HX2 := Lib.hid hx2
          obtain ⟨c0, c1, c2, c3⟩ := hx2.cells
          have hbn := (Blk.new wr 40 #[.int .i64 0, .int .i64 vn, .string vt]).drew
          have d0 := hbn.cell 0
          have d1 := hbn.cell 1
          have d2 := hbn.cell 2
          have HC := Lib.hid (wnull_any _ _ _ _ 0 vn vt hx2.wr_)
          simp only [ptr, Option.map] at HC
          simp at d0 d1 d2
          clear hx2 hbn hm
          go_wp2_with fail
          go_region_with (refine HC.out.mono ?_; rintro e w7 ⟨rfl, hwr, hfr⟩; have HX7 := Lib.hid (HX2.out.wrote hwr hfr); clear hwr hfr)
          all_goals
            go_wp2
            go_roundw
            case rel => exact ⟨k + 1, by omega, by go_num, by rw [hn.out, ← List.append_assoc]; simpa using HX7.out⟩
            case measure => simp [intOf]; omega
        · skip
          rw [one1 rfl] at hn
          have hx2 := (HX.out.box (.cells #[.int .i64 1, .int .i64 vn, .string vt] 40)).drew
          have HX2 := Lib.hid hx2
          obtain ⟨c0, c1, c2, c3⟩ := hx2.cells
          have hbn := (Blk.new wr 40 #[.int .i64 1, .int .i64 vn, .string vt]).drew
          have d0 := hbn.cell 0
          have d1 := hbn.cell 1
          have d2 := hbn.cell 2
          have HC := Lib.hid (wint1_any _ _ _ _ 1 vn vt (by omega) hn1 hn2 hx2.wr_)
          simp only [ptr, Option.map] at HC
          simp at d0 d1 d2
          clear hx2 hbn hm
          go_wp2_with fail
          go_region_with (refine HC.out.mono ?_; rintro e w7 ⟨rfl, hwr, hfr⟩; have HX7 := Lib.hid (HX2.out.wrote hwr hfr); clear hwr hfr)
          all_goals
            go_wp2
            go_roundw
            case rel => exact ⟨k + 1, by omega, by go_num, by rw [hn.out, ← List.append_assoc]; exact HX7.out⟩
            case measure => simp [intOf]; omega
        · skip
          have hts : vt.size ≤ 1099511627776 := by simp [may] at hm; omega
          rw [one2 rfl] at hn
          have hx2 := (HX.out.box (.cells #[.int .i64 2, .int .i64 vn, .string vt] 40)).drew
          have HX2 := Lib.hid hx2
          obtain ⟨c0, c1, c2, c3⟩ := hx2.cells
          have hbn := (Blk.new wr 40 #[.int .i64 2, .int .i64 vn, .string vt]).drew
          have d0 := hbn.cell 0
          have d1 := hbn.cell 1
          have d2 := hbn.cell 2
          have HC := Lib.hid (wtext1_any _ _ _ _ 2 vn vt (by omega) hts hx2.wr_)
          simp only [ptr, Option.map] at HC
          simp at d0 d1 d2
          clear hx2 hbn hm
          go_wp2_with fail
          go_region_with (refine HC.out.mono ?_; rintro e w7 ⟨rfl, hwr, hfr⟩; have HX7 := Lib.hid (HX2.out.wrote hwr hfr); clear hwr hfr)
          all_goals
            go_wp2
            go_roundw
            case rel => exact ⟨k + 1, by omega, by go_num, by rw [hn.out, ← List.append_assoc]; exact HX7.out⟩
            case measure => simp [intOf]; omega
        · skip
          have hb01 : vn = ((vn.toNat : Nat) : Int) ∧ vn.toNat < 256 := by simp [may] at hm; omega
          obtain ⟨q, hq, hq2⟩ : ∃ q : Nat, vn = (q : Int) ∧ q < 256 := ⟨vn.toNat, hb01.1, hb01.2⟩
          clear hb01
          subst hq
          rw [one3 rfl] at hn
          have hx2 := (HX.out.box (.cells #[.int .i64 3, .int .i64 (q : Int), .string vt] 40)).drew
          have HX2 := Lib.hid hx2
          obtain ⟨c0, c1, c2, c3⟩ := hx2.cells
          have hbn := (Blk.new wr 40 #[.int .i64 3, .int .i64 (q : Int), .string vt]).drew
          have d0 := hbn.cell 0
          have d1 := hbn.cell 1
          have d2 := hbn.cell 2
          have HC := Lib.hid (wbool1_any _ _ _ _ 3 q vt (by omega) hq2 hx2.wr_)
          simp only [ptr, Option.map] at HC
          simp at d0 d1 d2
          clear hx2 hbn hm
          go_wp2_with fail
          go_region_with (refine HC.out.mono ?_; rintro e w7 ⟨rfl, hwr, hfr⟩; have HX7 := Lib.hid (HX2.out.wrote hwr hfr); clear hwr hfr)
          all_goals
            go_wp2
            go_roundw
            case rel => exact ⟨k + 1, by omega, by go_num, by rw [hn.out, ← List.append_assoc]; exact HX7.out⟩
            case measure => simp [intOf]; omega
      · obtain rfl : k = m := by omega
        have hfull : vs.take k = vs := List.take_of_length_le (by rw [hlb.out]; omega)
        rw [hfull] at HX hll
        have HX : Hid (Ex w wr w1.heap.size w3.heap.size (txt vs)) := HX
        have hll : (txt vs).length ≤ 3 + 74 * 16 := hll
        have HL := Lib.hid (wlen_any wr _ _ _ _ HX.out.wr_)
        have HBy := Lib.hid (wbytes_any wr _ _ _ _ HX.out.wr_ (by omega))
        simp only [ptr, Option.map] at HL HBy
        by_cases h160 : 160 < (txt vs).length
        · obtain ⟨e1, e2⟩ := enc_wide H0.out h160
          have E1 := Lib.hid e1
          have E2 := Lib.hid e2
          clear e1 e2
          have hd : decide ((((txt vs).length : Nat) : Int) > 160) = true := decide_eq_true (by omega)
          generalize (txt vs).length = L at *
          go_wp2_with (go_at_call 31; refine HL.out.mono ?_; rintro e w7 ⟨rfl, rfl⟩)
          go_ret2
          exact ⟨by rw [E1.out, E2.out]; rfl, hbl.out⟩
        · obtain ⟨e1, e2⟩ := enc_good H0.out (by omega)
          have E1 := Lib.hid e1
          have E2 := Lib.hid e2
          clear e1 e2
          have hd : decide ((((txt vs).length : Nat) : Int) > 160) = false := decide_eq_false (by omega)
          obtain ⟨T, hT⟩ : ∃ T, T = txt vs := ⟨_, rfl⟩
          rw [← hT] at HL HBy hd E2
          clear hT
          go_wp2_with fail
          refine HL.out.mono ?_
          rintro e w7 ⟨rfl, rfl⟩
          go_wp2_with fail
          refine HBy.out.mono ?_
          rintro e w8 ⟨v8, rfl, ho8, hb8⟩
          obtain ⟨A8, c8, rfl, _, _, hr8⟩ := ho8.reads
          have hcv := run_conv _ A8 _ c8 _ _ hr8
          have HW8 := Lib.hid (below_trans hbl.out hb8)
          clear ho8 hb8 hr8
          go_wp2
          go_ret2
          exact ⟨by rw [E1.out, E2.out]; rfl, HW8.out⟩
  · obtain ⟨e1, e2⟩ := enc_unfit h0
    rw [e1, e2]
    generalize fitsE cs vs = z at *
    have hz : (z == 0) = false := beq_false_of_ne h0
    have hz2 : (z != 0) = true := bne_iff_ne.2 h0
    clear ha hb h0 e1 e2 HB hok hlb
    go_enter Try.func15, Try.ntmps15
    go_wp2_with fail
    refine HF.out.mono ?_
    rintro e w1 ⟨rfl, hb1⟩
    have HW1 := Lib.hid hb1
    clear hb1
    go_wp2
    go_ret2
    exact ⟨rfl, HW1.out⟩
end Go.Proofs.Ytiilhnedflmgoaa
