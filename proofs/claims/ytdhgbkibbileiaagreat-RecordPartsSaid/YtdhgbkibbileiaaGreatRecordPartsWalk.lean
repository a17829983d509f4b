/-
  longs; RecordParts: THE WALK.
-/
import Derived.Test.YtdhgbkibbileiaaGreatSQ
namespace Go.Proofs.YtdhgbkibbileiaaGreat
open Go.RowKit
/-- what longs comes to -/
def LongsR (l : List RV) (n : Nat) (w : World) (e : Ending) (w' : World) : Prop := ∃ b, e = .returned (.bool b) ∧ Below w.heap.size w w' ∧ (b = false → n ≤ 300 ∧ ∀ x ∈ l, Brief x)
set_option maxHeartbeats 4000000 in
set_option maxRecDepth 100000 in
theorem longs_any (w : World) (A : Option Addr) (n c : Nat) (l : List RV) (h : RVR w All A n l) : Calls Tryz.prog 21 #[.slice A n c] w (LongsR l n w) := by
  have HV := Lib.hid h
  have hn9 := h.2.2.1
  have hlen := h.1
  have HLEN := Lib.hid hlen
  clear h hlen
  go_enter Tryz.func21, Tryz.ntmps21
  go_wp2_with fail
  go_loopw [3] (fun i wr => ∃ q : Nat, q ≤ n ∧ q ≤ 301 ∧ i = .int .i64 (q : Int) ∧ (∀ i x, i < q → l[i]? = some x → Brief x) ∧ Below w.heap.size w wr) (fun i _ => n - (intOf i).toNat)
  case atStart => exact ⟨0, by omega, by omega, rfl, fun i x hi => by omega, Below.refl _ _⟩
  case round =>
    obtain ⟨q, hq, hq1, rfl, hall, hbel⟩ := hrel
    have HA := Lib.hid hall
    have HB := Lib.hid hbel
    by_cases hlt : q < n
    · have hin : ((q : Int) < (n : Int)) := by omega
      have d1 : decide ((q : Int) < (n : Int)) = true := decide_eq_true hin
      by_cases h300 : q ≤ 300
      · have d2 : decide ((q : Int) ≤ 300) = true := decide_eq_true (by omega)
        have hWi : IntKind.i64.wrap ((q : Int) + 1) = ((q + 1 : Nat) : Int) := by rw [IntWalk.i64_in _ (by omega)]; omega
        have hwq : IntKind.i64.wrap (q : Int) = (q : Int) := IntWalk.i64_in _ (by omega)
        obtain ⟨gx, o, x, hA, hgx, _, hx, hxi, b0, b1, b2, b3, b4, b5, b6, b7, b8, b9, b10, b11, b12, b13, b14⟩ := (HV.out.keep (Fr.of_below hbel No) fun _ _ hn => hn).at_ hlt
        have HX := Lib.hid hx
        have HL := Lib.hid (long_r wr x hxi)
        unfold RV.agg at HL
        have HQ1 : Hid (q + 1 ≤ 301) := Lib.hid (by omega)
        subst hA
        clear hx hxi hgx h300 hall hbel
        go_wp2_with fail
        with_reducible refine HL.out.mono ?_
        unfold LongR
        rintro e w2 ⟨b, rfl, hb2, hbr⟩
        have HB2 := Lib.hid (HB.out.trans (hb2.mono HB.out.size))
        have HBR := Lib.hid hbr
        clear hb2 hbr
        cases b with
        | true =>
          go_wp2_with fail
          go_ret
          exact ⟨true, rfl, HB2.out, fun h => by cases h⟩
        | false =>
          have HN2 : Hid (∀ i x, i < q + 1 → l[i]? = some x → Brief x) := fun i x hi hx => by
            rcases Nat.lt_or_ge i q with h' | h'
            · exact HA.out i x h' hx
            · obtain rfl : i = q := by omega
              rw [HX.out] at hx
              injection hx with hx
              subst hx
              exact HBR.out (by first | rfl | trivial)
          go_wp2_with fail
          go_roundw
          case rel => exact ⟨q + 1, by omega, HQ1.out, by go_num, HN2.out, HB2.out⟩
          case measure => simp [intOf]; omega
      · have d2 : decide ((q : Int) ≤ 300) = false := decide_eq_false (by omega)
        have d3 : decide ((n : Int) > 300) = true := decide_eq_true (by omega)
        have d4 : decide (300 < n) = true := decide_eq_true (by omega)
        clear h300 hbel hall
        go_wp2_with fail
        go_ret
        exact ⟨true, rfl, HB.out, fun h => by cases h⟩
    · have d1 : decide ((q : Int) < (n : Int)) = false := decide_eq_false (by omega)
      have hqn : q = n := by omega
      have HQN := Lib.hid hqn
      clear hqn hbel hall
      by_cases g0 : 300 < n
      · have e0 : decide ((n : Int) > 300) = true := decide_eq_true (by omega)
        have f0 : decide (300 < n) = true := decide_eq_true g0
        clear g0
        go_wp2_with fail
        go_ret
        exact ⟨true, rfl, HB.out, fun h => by cases h⟩
      have e0 : decide ((n : Int) > 300) = false := decide_eq_false (by omega)
      have f0 : decide (300 < n) = false := decide_eq_false g0
      have G0 : Hid (¬ 300 < n) := Lib.hid g0
      clear g0
      go_wp2_with fail
      go_ret
      refine ⟨false, rfl, HB.out, fun _ => ⟨by have := G0.out; omega, fun x hx => ?_⟩⟩
      obtain ⟨i, hi, rfl⟩ := List.getElem_of_mem hx
      have h9 := HLEN.out
      have h7 := HQN.out
      exact HA.out i _ (by omega) (List.getElem?_eq_getElem hi)
/-- the records of a row that may be -/
def mays (l : List RV) : List RV := l.filter fun x => decide (bytesE x.e ≠ [])
theorem mays_step {l : List RV} {q : Nat} {x : RV} (hx : l[q]? = some x) : mays (l.take (q + 1)) = mays (l.take q) ++ (if bytesE x.e ≠ [] then [x] else []) := by
  have hq : q < l.length := by
    rcases Nat.lt_or_ge q l.length with h' | h'
    · exact h'
    · rw [List.getElem?_eq_none h'] at hx; cases hx
  have e : l[q] = x := by rw [List.getElem?_eq_getElem hq] at hx; injection hx
  unfold mays
  rw [List.take_succ_eq_append_getElem hq, List.filter_append, e]
  congr 1
  by_cases h : bytesE x.e = []
  · simp [h]
  · simp [h]
def bmay (l : List RV) : List Nat := l.flatMap fun x => bytesE x.e
theorem bmay_len (l : List RV) : (bmay l).length ≤ l.length * 16384 := flat_len (fun x : RV => bytesE x.e) 16384 l fun x _ => bytesE_le x.e
theorem mays_len (l : List RV) : (mays l).length ≤ l.length := List.length_filter_le _ _
theorem mays_mem {l : List RV} {x : RV} (h : x ∈ mays l) : x ∈ l ∧ bytesE x.e ≠ [] := by
  unfold mays at h
  simpa using h
theorem bmay_drop {l : List RV} {j : Nat} {x : RV} (hx : l[j]? = some x) : bmay (l.drop j) = bytesE x.e ++ bmay (l.drop (j + 1)) := by
  have hq : j < l.length := by
    rcases Nat.lt_or_ge j l.length with h' | h'
    · exact h'
    · rw [List.getElem?_eq_none h'] at hx; cases hx
  have e : l[j] = x := by rw [List.getElem?_eq_getElem hq] at hx; injection hx
  unfold bmay
  rw [List.drop_eq_getElem_cons hq, e, List.flatMap_cons]
end Go.Proofs.YtdhgbkibbileiaaGreat
namespace Go.Proofs.YtdhgbkibbileiaaGreat.recordParts
open Go.RowKit
/-- two rows of one's own: the bytes, the records; begun at W0 -/
structure Two (W0 wr : World) (v v2 : Value) (m1 m2 : Nat) (bs : List Nat) (rs : List RV) : Prop where
  b : Ow wr (fun b => W0.heap.size ≤ b ∧ v2.ownBlock ≠ some b) v m1 bs
  r : OwRV wr (fun b => W0.heap.size ≤ b) (fun b => b < W0.heap.size) v2 m2 rs
  bel : Below W0.heap.size W0 wr
theorem Two.below {W0 wr w' : World} {v v2 : Value} {m1 m2 : Nat} {bs : List Nat} {rs : List RV} (h : Two W0 wr v v2 m1 m2 bs rs) (hb : Below wr.heap.size wr w') : Two W0 w' v v2 m1 m2 bs rs :=
  ⟨h.b.keep (Fr.of_below hb No) (fun _ _ hn => hn), h.r.fr (Fr.of_below hb No), h.bel.trans (hb.mono h.bel.size)⟩
theorem Two.row {W0 wr : World} {v v2 : Value} {m1 m2 : Nat} {bs : List Nat} {rs : List RV} (h : Two W0 wr v v2 m1 m2 bs rs) : OwRV wr (fun b => v2.ownBlock = some b) (fun b => b < W0.heap.size) v2 m2 rs := ⟨h.r.1, h.r.2.1, fun _ hk => hk, h.r.2.2.2⟩
theorem Two.app1 {W0 wr w' : World} {v v2 v' : Value} {m1 m2 n' : Nat} {bs l' : List Nat} {rs : List RV} (h : Two W0 wr v v2 m1 m2 bs rs) (hg : wr.grownBy w' v.ownBlock)
    (ho : Ow w' (fun b => (W0.heap.size ≤ b ∧ v2.ownBlock ≠ some b) ∨ wr.heap.size ≤ b) v' n' l') : Two W0 w' v' v2 n' m2 l' rs := by
  have hsz := h.bel.size
  have hf : Fr wr w' (fun b => v.ownBlock = some b) := (Fr.refl wr _).grown hg fun k hk => Or.inl hk
  have hr := h.row.keep hf (fun b hb hv => (h.b.2.2 b hv).2 hb) (fun b hb hv => by have := (h.b.2.2 b hv).1; omega)
  refine ⟨ho.mono fun b _ hb => ?_, ⟨hr.1, hr.2.1, fun k hk => h.r.2.2.1 k hk, hr.2.2.2⟩, h.bel.trans (hf.below (fun b hb => (h.b.2.2 b hb).1) hsz)⟩
  rcases hb with hb | hb
  · exact hb
  · refine ⟨by omega, fun hv => ?_⟩
    have := (h.r.1.lt b hv).2
    omega
theorem Two.app2 {W0 wr w' : World} {v v2 v' : Value} {m1 m2 n' : Nat} {bs : List Nat} {rs l' : List RV} (h : Two W0 wr v v2 m1 m2 bs rs) (hg : wr.grownBy w' v2.ownBlock)
    (ho : OwRV w' (fun b => v2.ownBlock = some b ∨ wr.heap.size ≤ b) (fun b => b < W0.heap.size ∧ b < wr.heap.size) v' n' l') : Two W0 w' v v' m1 n' bs l' := by
  have hsz := h.bel.size
  have hf : Fr wr w' (fun b => v2.ownBlock = some b) := (Fr.refl wr _).grown hg fun k hk => Or.inl hk
  have hb := h.b.keep hf (fun b hb hv => hb.2 hv)
  refine ⟨⟨hb.1, hb.2.1, fun k hk => ⟨(h.b.2.2 k hk).1, fun hv => ?_⟩⟩, ho.mono (fun b _ hb => ?_) (fun b _ hb => hb.1) (fun k hk hlt => ?_), h.bel.trans (hf.below (fun b hb => h.r.2.2.1 b hb) hsz)⟩
  · rcases ho.2.2.1 k hv with h9 | h9
    · exact (h.b.2.2 k hk).2 h9
    · have := (h.b.1.lt k hk).2; omega
  · rcases hb with hb | hb
    · exact h.r.2.2.1 b hb
    · omega
  · rcases ho.2.2.1 k hk with h9 | h9
    · have := h.r.2.2.1 k h9; omega
    · omega
section
attribute [local go_sem high] run_neqL run_eqL
set_option maxHeartbeats 16000000 in
set_option maxRecDepth 100000 in
theorem walked (A : Option Addr) (n c : Nat) (l : List RV) (w : World) (h : RVR w All A n l) : Calls Tryz.prog 6 #[.slice A n c] w (Alive w) := by
  have hn9 := h.2.2.1
  have HV := Lib.hid h
  have HLEN := Lib.hid h.1
  have HL := Lib.hid (longs_any w A n c l h)
  have HAL := Lib.hid (fun W => alive_any W)
  clear h
  go_enter Tryz.func6, Tryz.ntmps6
  go_wp2_with fail
  with_reducible refine HL.out.mono ?_
  unfold LongsR
  rintro e w1 ⟨b, rfl, hb1, hbr⟩
  have HB1 := Lib.hid hb1
  have HBR0 := Lib.hid hbr
  have HV := Lib.hid (HV.out.keep (Fr.of_below hb1 No) fun _ _ hn => hn)
  clear hb1 hbr
  cases b with
  | true =>
    go_wp2_with fail
    with_reducible refine (HAL.out _).mono ?_
    rintro e wA ⟨rfl, hbA⟩
    have HBA := Lib.hid hbA
    clear hbA
    go_wp2_with fail
    go_ret
    exact ⟨rfl, HB1.out.trans (HBA.out.mono HB1.out.size)⟩
  | false =>
    have HN3 : Hid (n ≤ 300) := Lib.hid (HBR0.out (by first | rfl | trivial)).1
    have HBR : Hid (∀ x ∈ l, Brief x) := Lib.hid (HBR0.out (by first | rfl | trivial)).2
    go_wp2_with fail
    go_loopw [3, 4, 5] (fun v v2 i wr => ∃ (q m1 m2 : Nat), q ≤ n ∧ i = .int .i64 (q : Int) ∧ Two w1 wr v v2 m1 m2 (bmay (mays (l.take q))) (mays (l.take q))) (fun _ _ i _ => n - (intOf i).toNat)
    case atStart => exact ⟨0, 0, 0, by omega, rfl, ⟨Ow.nil_ _ _, OwRV.nil_ _ _ _, Below.refl _ _⟩⟩
    case round =>
      obtain ⟨q, m1, m2, hq, rfl, htw⟩ := hrel
      have HT := Lib.hid htw
      have hm1 := htw.b.len
      have hm2 := htw.r.len
      have hq3 := HN3.out
      have hb16 : (bmay (mays (l.take q))).length ≤ 300 * 16384 := by
        have h1 := bmay_len (mays (l.take q))
        have h2 := mays_len (l.take q)
        have h3 : (l.take q).length ≤ q := by rw [List.length_take]; omega
        have h4 : (mays (l.take q)).length * 16384 ≤ 300 * 16384 := Nat.mul_le_mul_right _ (by omega)
        omega
      have hr3 : (mays (l.take q)).length ≤ 300 := by
        have h2 := mays_len (l.take q)
        have h3 : (l.take q).length ≤ q := by rw [List.length_take]; omega
        omega
      have HMB := Lib.hid (show m1 ≤ 300 * 16384 ∧ m2 ≤ 300 by omega)
      clear hm1 hm2 hb16 hr3 hq3
      by_cases hlt : q < n
      · have hin : ((q : Int) < (n : Int)) := by omega
        have d1 : decide ((q : Int) < (n : Int)) = true := decide_eq_true hin
        have hWi : IntKind.i64.wrap ((q : Int) + 1) = ((q + 1 : Nat) : Int) := by rw [IntWalk.i64_in _ (by omega)]; omega
        have hwq : IntKind.i64.wrap (q : Int) = (q : Int) := IntWalk.i64_in _ (by omega)
        have hxs := HV.out.mono (S' := fun b => b < w1.heap.size) fun b hlt _ => hlt
        obtain ⟨gx, o, x, hA, hgx, hgs, hx, hxi, b0, b1, b2, b3, b4, b5, b6, b7, b8, b9, b10, b11, b12, b13, b14⟩ := (hxs.keep (Fr.of_below htw.bel No) fun _ _ hn => hn).at_ hlt
        have HX := Lib.hid hx
        have HXI := Lib.hid hxi
        have HGX := Lib.hid (And.intro hgx hgs)
        have hbx := HBR.out x (List.mem_of_getElem? hx)
        have HEN := Lib.hid (encode_e wr x (hxi.mono (T' := All) fun _ _ _ => trivial) hbx)
        unfold RV.agg at HEN
        obtain ⟨y, hy⟩ : ∃ y, y = bytesE x.e := ⟨_, rfl⟩
        obtain ⟨cy, hcy⟩ : ∃ cy, cy = codeE x.e := ⟨_, rfl⟩
        have HY := Lib.hid (And.intro hy hcy)
        unfold EncE at HEN
        rw [← hy, ← hcy] at HEN
        have HSTEP := Lib.hid (mays_step hx)
        subst hA
        clear hx hxi hgx hgs hbx hxs hy hcy htw
        go_wp2_with fail
        with_reducible refine HEN.out.mono ?_
        rintro e w2 ⟨A2, c2, rfl, _, _, hr2, _, hb2⟩
        have HT2 := Lib.hid (HT.out.below hb2)
        have HR2 := Lib.hid hr2
        have HXI2 := Lib.hid (HXI.out.keep (Fr.of_below hb2 No) fun _ _ hn => hn)
        have HGX2 := Lib.hid (show gx < w2.heap.size by have := HGX.out.1; have := hb2.size; omega)
        have b0 := (World.cell?_of_block (hb2.block gx HGX.out.1)).trans b0
        have b1 := (World.cell?_of_block (hb2.block gx HGX.out.1)).trans b1
        have b2 := (World.cell?_of_block (hb2.block gx HGX.out.1)).trans b2
        have b3 := (World.cell?_of_block (hb2.block gx HGX.out.1)).trans b3
        have b4 := (World.cell?_of_block (hb2.block gx HGX.out.1)).trans b4
        have b5 := (World.cell?_of_block (hb2.block gx HGX.out.1)).trans b5
        have b6 := (World.cell?_of_block (hb2.block gx HGX.out.1)).trans b6
        have b7 := (World.cell?_of_block (hb2.block gx HGX.out.1)).trans b7
        have b8 := (World.cell?_of_block (hb2.block gx HGX.out.1)).trans b8
        have b9 := (World.cell?_of_block (hb2.block gx HGX.out.1)).trans b9
        have b10 := (World.cell?_of_block (hb2.block gx HGX.out.1)).trans b10
        have b11 := (World.cell?_of_block (hb2.block gx HGX.out.1)).trans b11
        have b12 := (World.cell?_of_block (hb2.block gx HGX.out.1)).trans b12
        have b13 := (World.cell?_of_block (hb2.block gx HGX.out.1)).trans b13
        have b14 := (World.cell?_of_block (hb2.block gx HGX.out.1)).trans b14
        have hye : (y = [] ∧ cy = 5) ∨ (y ≠ [] ∧ cy = 0) := by
          obtain ⟨e1, e2⟩ := HY.out
          rw [e1, e2]
          by_cases hn : bytesE x.e = []
          · exact Or.inl ⟨hn, codeE_no hn⟩
          · exact Or.inr ⟨hn, codeE_yes hn⟩
        clear hr2 hb2
        rcases hye with ⟨hy0, rfl⟩ | ⟨hy0, rfl⟩
        · have HY0 := Lib.hid hy0
          clear hy0
          go_wp2_with fail
          go_roundw
          case rel =>
            refine ⟨q + 1, m1, m2, by omega, by go_num, ?_⟩
            rw [HSTEP.out, if_neg (by rw [← HY.out.1, HY0.out]; simp), List.append_nil]
            exact HT2.out
          case measure => simp [intOf]; omega
        · have HY0 := Lib.hid hy0
          have HYL : Hid (y.length ≤ 16384) := Lib.hid (by rw [HY.out.1]; exact bytesE_le _)
          clear hy0
          go_wp2_with (at_builtin; first
            | (refine wpList_app rfl (.tmp 31) (.tmp 32) rfl _ m1 _ rfl HT2.out.b (fun b => wr.heap.size ≤ b) A2 y.length c2 y rfl HR2.out (by have := HMB.out; have := HYL.out; omega) ?_; intro v3 w3 hown hgrow; have HT3 := Lib.hid (HT2.out.app1 hgrow hown); have hf3 : Fr w2 w3 (fun b => w1.heap.size ≤ b) := (Fr.refl w2 _).grown hgrow (fun k hk => Or.inl (HT2.out.b.2.2 k hk).1); have hgb := hf3.block gx HGX2.out (by have := HGX.out.2; omega); have b0 := (World.cell?_of_block (hgb)).trans b0; have b1 := (World.cell?_of_block (hgb)).trans b1; have b2 := (World.cell?_of_block (hgb)).trans b2; have b3 := (World.cell?_of_block (hgb)).trans b3; have b4 := (World.cell?_of_block (hgb)).trans b4; have b5 := (World.cell?_of_block (hgb)).trans b5; have b6 := (World.cell?_of_block (hgb)).trans b6; have b7 := (World.cell?_of_block (hgb)).trans b7; have b8 := (World.cell?_of_block (hgb)).trans b8; have b9 := (World.cell?_of_block (hgb)).trans b9; have b10 := (World.cell?_of_block (hgb)).trans b10; have b11 := (World.cell?_of_block (hgb)).trans b11; have b12 := (World.cell?_of_block (hgb)).trans b12; have b13 := (World.cell?_of_block (hgb)).trans b13; have b14 := (World.cell?_of_block (hgb)).trans b14; have HXI3 := Lib.hid ((HXI2.out.keep hf3 fun b hb hn => by omega).keep ((Fr.refl w3 No).alloc (.cells (rcs x) 31)) fun _ _ hn => hn); have HB3 : Hid (Blk (w3.alloc (.cells (rcs x) 31)) w3.heap.size 31 (rcs x)) := Lib.hid (Blk.new w3 31 _); have HT3b := Lib.hid (HT3.out.below ((Below.refl w3.heap.size w3).alloc (Nat.le_refl _) (.cells (rcs x) 31))); simp only [rcs] at HXI3 HB3 HT3b; clear hown hgrow hf3 hgb)
            | (go_must (refine wpList_appRV rfl (.tmp 34) (.tmp 39) rfl _ m2 _ rfl HT3b.out.row w3.heap.size 1 x rfl HB3.out HXI3.out (by have := HMB.out; omega) ?_); intro v4 w4 hown hgrow; have HT4 := Lib.hid (HT3b.out.app2 hgrow hown); clear hown hgrow))
          go_roundw
          case rel =>
            refine ⟨q + 1, m1 + y.length, m2 + 1, by omega, by go_num, ?_⟩
            rw [HSTEP.out, if_pos (by rw [← HY.out.1]; exact HY0.out)]
            have h9 := HT4.out
            unfold bmay at h9 ⊢
            rw [List.flatMap_append, List.flatMap_cons, List.flatMap_nil, List.append_nil, ← HY.out.1]
            exact h9
          case measure => simp [intOf]; omega
      · have d1 : decide ((q : Int) < (n : Int)) = false := decide_eq_false (by omega)
        have d2 : decide (q < n) = false := decide_eq_false hlt
        obtain ⟨rs, hrs⟩ : ∃ rs, rs = mays (l.take q) := ⟨_, rfl⟩
        rw [← hrs] at htw HT
        have hmem : ∀ x ∈ rs, bytesE x.e ≠ [] := fun x hx => by rw [hrs] at hx; exact (mays_mem hx).2
        obtain ⟨A', c', rfl, hk', _, hrb⟩ := htw.b.reads
        obtain ⟨A2, c2, rfl, _, _, _, hrr⟩ := htw.r.reads (by have := HMB.out; omega)
        have HRB := Lib.hid hrb
        have HRR := Lib.hid hrr
        have HKC := Lib.hid hk'
        have HMEM := Lib.hid hmem
        have HBEL := Lib.hid htw.bel
        have hm2 : m2 ≤ 300 := HMB.out.2
        clear hrs htw HT hrb hrr hk' hmem hlt hq
        go_wp2_with fail
        obtain ⟨wo, hwo⟩ : ∃ wo, wo = wr := ⟨_, rfl⟩
        subst hwo
        go_loopw [3, 8] (fun v i wr => ∃ (j k : Nat) (A' : Option Addr) (c' : Nat), j ≤ m2 ∧ i = .int .i64 (j : Int) ∧ v = .slice A' k c' ∧ k ≤ c' ∧ k ≤ 300 * 16384 ∧ RB wr All A' k (bmay (rs.drop j)) ∧ Below wo.heap.size wo wr) (fun _ i _ => m2 - (intOf i).toNat)
        case atStart => exact ⟨0, m1, A', c', by omega, rfl, rfl, HKC.out, HMB.out.1, HRB.out.mono fun _ _ _ => trivial, Below.refl _ _⟩
        case round =>
          obtain ⟨j, k, A', c', hj, rfl, rfl, hkc, hkl, hrb, hbel⟩ := hrel
          have HB := Lib.hid hbel
          have HRB := Lib.hid hrb
          have HKC := Lib.hid (And.intro hkc hkl)
          by_cases hlt : j < m2
          · have hin : ((j : Int) < (m2 : Int)) := by omega
            have d1 : decide ((j : Int) < (m2 : Int)) = true := decide_eq_true hin
            have hWi : IntKind.i64.wrap ((j : Int) + 1) = ((j + 1 : Nat) : Int) := by rw [IntWalk.i64_in _ (by omega)]; omega
            have hwj : IntKind.i64.wrap (j : Int) = (j : Int) := IntWalk.i64_in _ (by omega)
            obtain ⟨gx, o, x, hA, hgx, _, hx, hxi, b0, b1, b2, b3, b4, b5, b6, b7, b8, b9, b10, b11, b12, b13, b14⟩ := (HRR.out.keep (Fr.of_below hbel No) fun _ _ hn => hn).at_ hlt
            have hx0 := HMEM.out x (List.mem_of_getElem? hx)
            have hdr := bmay_drop hx
            obtain ⟨L, hL⟩ : ∃ L, L = (bytesE x.e).length := ⟨_, rfl⟩
            have hL3 : 3 ≤ L ∧ L ≤ k := by
              have h1 := bytesE_three hx0
              have h2 := hrb.len
              rw [hdr, List.length_append] at h2
              omega
            have hdec := decode_b wr A' k c' x.e (bmay (rs.drop (j + 1))) hxi.e hx0 (by rw [← hdr]; exact hrb) hkc (by omega)
            unfold DecB at hdec
            rw [← hL] at hdec
            have HDC := Lib.hid hdec
            have HX := Lib.hid (And.intro hx hx0)
            have HXI := Lib.hid (hxi.mono (T' := All) fun _ _ _ => trivial)
            have HL := Lib.hid (And.intro hL hdr)
            have HGX := Lib.hid hgx
            subst hA
            have e1 : decide ((L : Int) < 3) = false := decide_eq_false (by omega)
            have e2 : decide (L < 3) = false := decide_eq_false (by omega)
            have e3 : decide ((L : Int) > (k : Int)) = false := decide_eq_false (by omega)
            have e4 : decide (k < L) = false := decide_eq_false (by omega)
            obtain ⟨ad, hA⟩ : ∃ ad, A' = some ad := by
              obtain ⟨ad, h, _⟩ := hrb.2.2 (by omega)
              exact ⟨ad, h⟩
            subst hA
            have HL3 := Lib.hid hL3
            clear hx hx0 hxi hdr hL hL3 hdec hgx hrb hbel hkc hkl
            go_wp2_with fail
            with_reducible refine HDC.out.mono ?_
            rintro e w9 ⟨r9, rfl, hs9, he9, hi9, hb9⟩
            have HE9 := Lib.hid he9
            have hgb := hb9.block gx HGX.out
            have b0 := (World.cell?_of_block hgb).trans b0
            have b1 := (World.cell?_of_block hgb).trans b1
            have b2 := (World.cell?_of_block hgb).trans b2
            have b3 := (World.cell?_of_block hgb).trans b3
            have b4 := (World.cell?_of_block hgb).trans b4
            have b5 := (World.cell?_of_block hgb).trans b5
            have b6 := (World.cell?_of_block hgb).trans b6
            have b7 := (World.cell?_of_block hgb).trans b7
            have b8 := (World.cell?_of_block hgb).trans b8
            have b9 := (World.cell?_of_block hgb).trans b9
            have b10 := (World.cell?_of_block hgb).trans b10
            have b11 := (World.cell?_of_block hgb).trans b11
            have b12 := (World.cell?_of_block hgb).trans b12
            have b13 := (World.cell?_of_block hgb).trans b13
            have b14 := (World.cell?_of_block hgb).trans b14
            obtain ⟨w9b, hw9b⟩ : ∃ w9b, w9.alloc (.cells (rcs r9) 31) = w9b := ⟨_, rfl⟩
            have HX9 : Hid (Blk w9b w9.heap.size 31 (rcs r9)) := Lib.hid (by rw [← hw9b]; exact Blk.new w9 31 _)
            have hbb : Below w9.heap.size w9 w9b := by rw [← hw9b]; exact (Below.refl _ _).alloc (Nat.le_refl _) _
            have hgb2 := hbb.block gx (by have := HGX.out; have := hb9.size; omega)
            have b0 := (World.cell?_of_block hgb2).trans b0
            have b1 := (World.cell?_of_block hgb2).trans b1
            have b2 := (World.cell?_of_block hgb2).trans b2
            have b3 := (World.cell?_of_block hgb2).trans b3
            have b4 := (World.cell?_of_block hgb2).trans b4
            have b5 := (World.cell?_of_block hgb2).trans b5
            have b6 := (World.cell?_of_block hgb2).trans b6
            have b7 := (World.cell?_of_block hgb2).trans b7
            have b8 := (World.cell?_of_block hgb2).trans b8
            have b9 := (World.cell?_of_block hgb2).trans b9
            have b10 := (World.cell?_of_block hgb2).trans b10
            have b11 := (World.cell?_of_block hgb2).trans b11
            have b12 := (World.cell?_of_block hgb2).trans b12
            have b13 := (World.cell?_of_block hgb2).trans b13
            have b14 := (World.cell?_of_block hgb2).trans b14
            have hb99 : Below wr.heap.size wr w9b := hb9.trans (hbb.mono hb9.size)
            have HB9 := Lib.hid (HB.out.trans (hb99.mono HB.out.size))
            have HRB9 := Lib.hid (HRB.out.keep (Fr.of_below hb99 No) fun _ _ hn => hn)
            have HGX9 := Lib.hid (show gx < w9b.heap.size by have := HGX.out; have := hb99.size; omega)
            have HSM := Lib.hid (same_r r9 x w9b.drew ((hi9.keep (Fr.of_below hbb No) fun _ _ hn => hn).keep ((Fr.refl w9b No).drew) fun _ _ hn => hn) ((HXI.out.keep (Fr.of_below hb99 No) fun _ _ hn => hn).keep ((Fr.refl w9b No).drew) fun _ _ hn => hn))
            simp only [rcs] at hw9b
            unfold RV.agg at HSM ⊢
            clear hb9 hs9 he9 hi9 hgb hbb hgb2 hb99 HDC
            go_upto_region 16 with fail
            refine wp_region_held_drew (S := fun wx => Fr w9b wx No) (by kernel_rfl) ((Fr.refl w9b No).drew) (fun hS => ?_)
            refine wpAnyH_take (i := 0) (v := ?_) rfl (by kernel_rfl) (by kernel_rfl) (by kernel_rfl) (fun _ _ _ h => h) (Or.inl ⟨by rfl, ?_⟩) hS ?_
            rotate_left
            · (intro wq hSw; go_simp; try with_reducible rfl)
            refine wpAnyH_take (i := 1) (v := ?_) rfl (by kernel_rfl) (by kernel_rfl) (by kernel_rfl) (fun _ _ _ h => h) (Or.inl ⟨by rfl, ?_⟩) hS ?_
            rotate_left
            · (intro wq hSw; go_simp; try with_reducible rfl)
            simp only [List.getElem_toArray, List.getElem_cons_succ, List.getElem_cons_zero, Act.put, List.setIfInBounds_toArray, List.set_cons_succ, List.set_cons_zero]
            refine wpAnyH_take (i := 2) (v := ?_) rfl (by kernel_rfl) (by kernel_rfl) (by kernel_rfl) (fun _ _ _ h => h) (Or.inl ⟨by rfl, ?_⟩) hS ?_
            rotate_left
            · (intro wq hSw; go_simp; try with_reducible rfl)
            simp only [List.getElem_toArray, List.getElem_cons_succ, List.getElem_cons_zero, Act.put, List.setIfInBounds_toArray, List.set_cons_succ, List.set_cons_zero]
            refine wpAnyH_take (i := 3) (v := ?_) rfl (by kernel_rfl) (by kernel_rfl) (by kernel_rfl) (fun _ _ _ h => h) (Or.inl ⟨by rfl, ?_⟩) hS ?_
            rotate_left
            · (intro wq hSw; go_simp; try with_reducible rfl)
            simp only [List.getElem_toArray, List.getElem_cons_succ, List.getElem_cons_zero, Act.put, List.setIfInBounds_toArray, List.set_cons_succ, List.set_cons_zero]
            refine wpAnyH_take (i := 4) (v := ?_) rfl (by kernel_rfl) (by kernel_rfl) (by kernel_rfl) (fun _ _ _ h => h) (Or.inl ⟨by rfl, ?_⟩) hS ?_
            rotate_left
            · (intro wq hSw; go_simp; try with_reducible rfl)
            simp only [List.getElem_toArray, List.getElem_cons_succ, List.getElem_cons_zero, Act.put, List.setIfInBounds_toArray, List.set_cons_succ, List.set_cons_zero]
            refine wpAnyH_take (i := 5) (v := ?_) rfl (by kernel_rfl) (by kernel_rfl) (by kernel_rfl) (fun _ _ _ h => h) (Or.inl ⟨by rfl, ?_⟩) hS ?_
            rotate_left
            · (intro wq hSw; go_simp; try with_reducible rfl)
            simp only [List.getElem_toArray, List.getElem_cons_succ, List.getElem_cons_zero, Act.put, List.setIfInBounds_toArray, List.set_cons_succ, List.set_cons_zero]
            refine wpAnyH_take (i := 6) (v := ?_) rfl (by kernel_rfl) (by kernel_rfl) (by kernel_rfl) (fun _ _ _ h => h) (Or.inl ⟨by rfl, ?_⟩) hS ?_
            rotate_left
            · (intro wq hSw; go_simp; try with_reducible rfl)
            simp only [List.getElem_toArray, List.getElem_cons_succ, List.getElem_cons_zero, Act.put, List.setIfInBounds_toArray, List.set_cons_succ, List.set_cons_zero]
            refine wpAnyH_take (i := 7) (v := ?_) rfl (by kernel_rfl) (by kernel_rfl) (by kernel_rfl) (fun _ _ _ h => h) (Or.inl ⟨by rfl, ?_⟩) hS ?_
            rotate_left
            · (intro wq hSw; go_simp; try with_reducible rfl)
            simp only [List.getElem_toArray, List.getElem_cons_succ, List.getElem_cons_zero, Act.put, List.setIfInBounds_toArray, List.set_cons_succ, List.set_cons_zero]
            refine wpAnyH_take (i := 8) (v := ?_) rfl (by kernel_rfl) (by kernel_rfl) (by kernel_rfl) (fun _ _ _ h => h) (Or.inl ⟨by rfl, ?_⟩) hS ?_
            rotate_left
            · (intro wq hSw; go_simp; try with_reducible rfl)
            simp only [List.getElem_toArray, List.getElem_cons_succ, List.getElem_cons_zero, Act.put, List.setIfInBounds_toArray, List.set_cons_succ, List.set_cons_zero]
            refine wpAnyH_take (i := 9) (v := ?_) rfl (by kernel_rfl) (by kernel_rfl) (by kernel_rfl) (fun _ _ _ h => h) (Or.inl ⟨by rfl, ?_⟩) hS ?_
            rotate_left
            · (intro wq hSw; go_simp; try with_reducible rfl)
            simp only [List.getElem_toArray, List.getElem_cons_succ, List.getElem_cons_zero, Act.put, List.setIfInBounds_toArray, List.set_cons_succ, List.set_cons_zero]
            refine wpAnyH_take (i := 10) (v := ?_) rfl (by kernel_rfl) (by kernel_rfl) (by kernel_rfl) (fun _ _ _ h => h) (Or.inl ⟨by rfl, ?_⟩) hS ?_
            rotate_left
            · (intro wq hSw; go_simp; try with_reducible rfl)
            simp only [List.getElem_toArray, List.getElem_cons_succ, List.getElem_cons_zero, Act.put, List.setIfInBounds_toArray, List.set_cons_succ, List.set_cons_zero]
            refine wpAnyH_take (i := 11) (v := ?_) rfl (by kernel_rfl) (by kernel_rfl) (by kernel_rfl) (fun _ _ _ h => h) (Or.inl ⟨by rfl, ?_⟩) hS ?_
            rotate_left
            · (intro wq hSw; go_simp; try with_reducible rfl)
            simp only [List.getElem_toArray, List.getElem_cons_succ, List.getElem_cons_zero, Act.put, List.setIfInBounds_toArray, List.set_cons_succ, List.set_cons_zero]
            refine wpAnyH_take (i := 12) (v := ?_) rfl (by kernel_rfl) (by kernel_rfl) (by kernel_rfl) (fun _ _ _ h => h) (Or.inl ⟨by rfl, ?_⟩) hS ?_
            rotate_left
            · (intro wq hSw; go_simp; try with_reducible rfl)
            simp only [List.getElem_toArray, List.getElem_cons_succ, List.getElem_cons_zero, Act.put, List.setIfInBounds_toArray, List.set_cons_succ, List.set_cons_zero]
            refine wpAnyH_take (i := 13) (v := ?_) rfl (by kernel_rfl) (by kernel_rfl) (by kernel_rfl) (fun _ _ _ h => h) (Or.inl ⟨by rfl, ?_⟩) hS ?_
            rotate_left
            · (intro wq hSw; obtain ⟨y0, y1, y2, y3, y4, y5, y6, y7, y8, y9, y10, y11, y12, y13, y14⟩ := rcs_cells (HX9.out.keep hSw fun h => h); go_simp; try with_reducible rfl)
            simp only [List.getElem_toArray, List.getElem_cons_succ, List.getElem_cons_zero, Act.put, List.setIfInBounds_toArray, List.set_cons_succ, List.set_cons_zero]
            refine wpAnyH_take (i := 14) (v := ?_) rfl (by kernel_rfl) (by kernel_rfl) (by kernel_rfl) (fun _ _ _ h => h) (Or.inl ⟨by rfl, ?_⟩) hS ?_
            rotate_left
            · (intro wq hSw; go_simp; try with_reducible rfl)
            simp only [List.getElem_toArray, List.getElem_cons_succ, List.getElem_cons_zero, Act.put, List.setIfInBounds_toArray, List.set_cons_succ, List.set_cons_zero]
            refine wpAnyH_take (i := 15) (v := ?_) rfl (by kernel_rfl) (by kernel_rfl) (by kernel_rfl) (fun _ _ _ h => h) (Or.inl ⟨by rfl, ?_⟩) hS ?_
            rotate_left
            · (intro wq hSw; go_simp; try with_reducible rfl)
            simp only [List.getElem_toArray, List.getElem_cons_succ, List.getElem_cons_zero, Act.put, List.setIfInBounds_toArray, List.set_cons_succ, List.set_cons_zero]
            refine wpAnyH_take (i := 16) (v := ?_) rfl (by kernel_rfl) (by kernel_rfl) (by kernel_rfl) (fun _ _ _ h => h) (Or.inl ⟨by rfl, ?_⟩) hS ?_
            rotate_left
            · (intro wq hSw; go_simp; try with_reducible rfl)
            simp only [List.getElem_toArray, List.getElem_cons_succ, List.getElem_cons_zero, Act.put, List.setIfInBounds_toArray, List.set_cons_succ, List.set_cons_zero]
            refine wpAnyH_take (i := 17) (v := ?_) rfl (by kernel_rfl) (by kernel_rfl) (by kernel_rfl) (fun _ _ _ h => h) (Or.inl ⟨by rfl, ?_⟩) hS ?_
            rotate_left
            · (intro wq hSw; have hq := hSw.block gx HGX9.out (fun h => h); have b0 := (World.cell?_of_block hq).trans b0; have b1 := (World.cell?_of_block hq).trans b1; have b2 := (World.cell?_of_block hq).trans b2; have b3 := (World.cell?_of_block hq).trans b3; have b4 := (World.cell?_of_block hq).trans b4; have b5 := (World.cell?_of_block hq).trans b5; have b6 := (World.cell?_of_block hq).trans b6; have b7 := (World.cell?_of_block hq).trans b7; have b8 := (World.cell?_of_block hq).trans b8; have b9 := (World.cell?_of_block hq).trans b9; have b10 := (World.cell?_of_block hq).trans b10; have b11 := (World.cell?_of_block hq).trans b11; have b12 := (World.cell?_of_block hq).trans b12; have b13 := (World.cell?_of_block hq).trans b13; have b14 := (World.cell?_of_block hq).trans b14; go_simp; try with_reducible rfl)
            simp only [List.getElem_toArray, List.getElem_cons_succ, List.getElem_cons_zero, Act.put, List.setIfInBounds_toArray, List.set_cons_succ, List.set_cons_zero]
            refine wpAnyH_ready (rs := [18]) (by kernel_rfl) (by simp) ?_
            refine AllReadyH.cons rfl (fun K hK => ?_) AllReadyH.nil
            go_simp
            refine HSM.out.mono ?_
            unfold Tells
            rintro e w10 ⟨sb, rfl, hsb, hb10⟩
            have hsb : sb = true := hsb.2 HE9.out
            subst hsb
            have hb910 : Below w9b.heap.size w9b w10 := ((Below.refl w9b.heap.size w9b).drew).trans hb10
            have HB10 := Lib.hid (HB9.out.trans (hb910.mono HB9.out.size))
            have HRB10 := Lib.hid (HRB9.out.keep (Fr.of_below hb910 No) fun _ _ hn => hn)
            refine hK.out _ _ ?_ (fun hS => ?_)
            · exact hS.trans (Fr.of_below hb10 No) fun _ hn => hn.elim
            clear hK K hb10 hb910
            refine wpAnyH_take (i := 19) (v := ?_) rfl (by kernel_rfl) (by kernel_rfl) (by kernel_rfl) (fun _ _ _ h => h) (Or.inl ⟨by rfl, ?_⟩) hS ?_
            rotate_left
            · (intro wq hSw; go_simp; try with_reducible rfl)
            simp only [List.getElem_toArray, List.getElem_cons_succ, List.getElem_cons_zero, Act.put, List.setIfInBounds_toArray, List.set_cons_succ, List.set_cons_zero]
            refine wpAnyH_ready (rs := [20]) (by kernel_rfl) (by simp) ?_
            refine AllReadyH.cons rfl (fun K hK => ?_) AllReadyH.nil
            go_simp
            refine hK.out _ _ hS (fun hS => ?_)
            clear hK K
            refine wpAnyH_done (by kernel_rfl) ?_ _
            clear hS
            have hLk : L ≤ k := HL3.out.2
            have hLc : L ≤ c' := Nat.le_trans hLk HKC.out.1
            have f1 : ((L : Int) ≤ (k : Int)) := by omega
            have f2 : decide ((L : Int) ≤ (k : Int)) = true := decide_eq_true f1
            have f3 : decide (L ≤ k) = true := decide_eq_true hLk
            have f4 : IntKind.i64.wrap (L : Int) = (L : Int) := IntWalk.i64_in _ (by have := HKC.out.2; omega)
            have hnew := HRB10.out.drop hLk HKC.out.1
            have hdl : (bmay (rs.drop j)).drop L = bmay (rs.drop (j + 1)) := by rw [HL.out.2, HL.out.1, List.drop_left]
            rw [hdl] at hnew
            have HNEW := Lib.hid hnew
            clear hnew hdl
            by_cases hcc : c' = L
            · have g1 : (c' == L) = true := by rw [beq_iff_eq]; exact hcc
              have HCC := Lib.hid hcc
              go_wp2_with fail
              go_roundw
              case rel =>
                have h9 := HNEW.out
                rw [if_pos HCC.out] at h9
                refine ⟨j + 1, k - L, _, 0, by omega, by go_num, rfl, by have := HKC.out.1; have := HCC.out; omega, by have := HKC.out.2; omega, h9, HB10.out⟩
              case measure => simp [intOf]; omega
            · have g1 : (c' == L) = false := beq_false_of_ne hcc
              have HCC := Lib.hid hcc
              go_wp2_with fail
              go_roundw
              case rel =>
                have h9 := HNEW.out
                rw [if_neg HCC.out] at h9
                refine ⟨j + 1, k - L, _, c' - L, by omega, by go_num, rfl, by have := HKC.out.1; omega, by have := HKC.out.2; omega, h9, HB10.out⟩
              case measure => simp [intOf]; omega
          · have d1 : decide ((j : Int) < (m2 : Int)) = false := decide_eq_false (by omega)
            have d2 : decide (j < m2) = false := decide_eq_false hlt
            have hk0 : k = 0 := by
              have h1 := hrb.len
              have h2 : rs.length ≤ j := by have := HRR.out.1; omega
              rw [List.drop_of_length_le h2] at h1
              exact h1.symm
            have k0 : ((k : Int) == 0) = true := by rw [hk0]; rfl
            have k1 : (k == 0) = true := by rw [hk0]; rfl
            have HB := Lib.hid (HB1.out.trans ((HBEL.out.trans (hbel.mono HBEL.out.size)).mono HB1.out.size))
            clear hlt hk0 hrb hbel
            go_wp2_with fail
            with_reducible refine (HAL.out _).mono ?_
            rintro e wA ⟨rfl, hbA⟩
            have HBA := Lib.hid hbA
            clear hbA
            go_wp2_with fail
            go_ret
            exact ⟨rfl, HB.out.trans (HBA.out.mono HB.out.size)⟩
end
end Go.Proofs.YtdhgbkibbileiaaGreat.recordParts
