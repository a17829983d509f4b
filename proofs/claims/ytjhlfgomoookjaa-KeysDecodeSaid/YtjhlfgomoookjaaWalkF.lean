/-
  THE WALKS OF THE CUTTER, cutNumber, cutText, cutValue.
-/
import Derived.Test.YtjhlfgomoookjaaWalkE
import Derived.WalkMore
namespace Go.Proofs.Ytjhlfgomoookjaa
open Go.RowKit Go.Sort
attribute [local go_sem high] run_eqv run_neqv run_eqs

/-- the cutter as a value -/
def cutter (gp gs : Nat) : Value := .func (.func 35) #[] #[.pointer (some ⟨gp, 0, none⟩), .pointer (some ⟨gs, 0, none⟩)]
/-- the cutter's place and text -/
def Cut (w : World) (gp gs : Nat) (s : ByteArray) (p : Nat) : Prop :=
  Blk w gp 3 #[.int .i64 (p : Int)] ∧ Blk w gs 9 #[.string s] ∧ p ≤ s.size ∧ s.size ≤ 140
/-- what a call that cuts may have changed -/
def Cf (gp : Nat) (w w' : World) : Prop := Fr w w' (fun b => b = gp)
theorem Cut.ne {w : World} {gp gs : Nat} {s : ByteArray} {p : Nat} (h : Cut w gp gs s p) : gs ≠ gp := Blk.ne_ h.2.1 h.1 (by decide)
theorem Cut.facts {w : World} {gp gs : Nat} {s : ByteArray} {p : Nat} (h : Cut w gp gs s p) : w.cell? ⟨gp, 0, none⟩ = some (.int .i64 (p : Int)) ∧ w.cell? ⟨gs, 0, none⟩ = some (.string s) ∧ w.frozen? ⟨gp, 0, none⟩ = false :=
  ⟨h.1.cell 0, h.2.1.cell 0, h.1.frozen 0⟩
theorem Cut.alloc {w : World} {gp gs : Nat} {s : ByteArray} {p : Nat} (h : Cut w gp gs s p) (o : Obj) : Cut (w.alloc o) gp gs s p := ⟨h.1.alloc o, h.2.1.alloc o, h.2.2⟩
theorem Cut.to {w : World} {gp gs : Nat} {s : ByteArray} {p : Nat} (h : Cut w gp gs s p) {q : Nat} (hq : q ≤ s.size) : Cut (w.setCell ⟨gp, 0, none⟩ (.int .i64 (q : Int))) gp gs s q := by
  have hne := h.ne
  refine ⟨?_, h.2.1.far (p := ⟨gp, 0, none⟩) hne _, hq, h.2.2.2⟩
  have := h.1.set_ 0 (.int .i64 (q : Int))
  simpa using this
theorem Cf.set {w : World} {gp : Nat} (v : Value) : Cf gp w (w.setCell ⟨gp, 0, none⟩ v) := (Fr.refl w (fun b => b = gp)).setCell (p := ⟨gp, 0, none⟩) (Or.inl rfl) v
theorem Cf.refl (gp : Nat) (w : World) : Cf gp w w := Fr.refl w _
theorem Cf.trans {gp : Nat} {w w1 w2 : World} (h : Cf gp w w1) (k : Cf gp w1 w2) : Cf gp w w2 := Fr.same h k
theorem extract_sb (s : ByteArray) (p k : Nat) (h : p + k ≤ s.size) : sb (s.extract p (p + k)) = ((sb s).drop p).take k ∧ (s.extract p (p + k)).size = k := by
  have hz : (s.extract p (p + k)).size = k := by simp [ByteArray.size_extract]; omega
  refine ⟨?_, hz⟩
  unfold sb
  rw [← List.map_drop, ← List.map_take]
  congr 1
  rw [ByteArray.data_extract, Array.toList_extract]
  simp [List.extract]

set_option maxRecDepth 100000 in
set_option maxHeartbeats 1000000 in
theorem cut_yes (gp gs : Nat) (s : ByteArray) (p k : Nat) (w : World) (h : Cut w gp gs s p) (hk : p + k ≤ s.size) :
    Calls Try.prog 35 #[.int .i64 (k : Int), .pointer (some ⟨gp, 0, none⟩), .pointer (some ⟨gs, 0, none⟩)] w fun e w' =>
      ∃ t : ByteArray, e = .returned (.tuple #[.string t, .bool true]) ∧ sb t = ((sb s).drop p).take k ∧ t.size = k ∧ w' = w.setCell ⟨gp, 0, none⟩ (.int .i64 ((p + k : Nat) : Int)) := by
  obtain ⟨c0, c1, f0⟩ := h.facts
  have h140 := h.2.2.2
  have hne := h.ne
  have hd : decide ((k : Int) > (s.size : Int) - (p : Int)) = false := decide_eq_false (by omega)
  have hx := extract_sb s p k hk
  clear h
  go_enter Try.func35, Try.ntmps35
  go_wp2
  go_ret2
  exact ⟨_, rfl, hx.1, hx.2, by simp⟩
set_option maxRecDepth 100000 in
set_option maxHeartbeats 1000000 in
theorem cut_no (gp gs : Nat) (s : ByteArray) (p k : Nat) (w : World) (h : Cut w gp gs s p) (hk : ¬ p + k ≤ s.size) :
    Calls Try.prog 35 #[.int .i64 (k : Int), .pointer (some ⟨gp, 0, none⟩), .pointer (some ⟨gs, 0, none⟩)] w fun e w' =>
      e = .returned (.tuple #[.string ⟨#[]⟩, .bool false]) ∧ w' = w := by
  obtain ⟨c0, c1, f0⟩ := h.facts
  have h140 := h.2.2.2
  have hp := h.2.2.1
  have hd : decide ((k : Int) > (s.size : Int) - (p : Int)) = true := decide_eq_true (by omega)
  clear h
  go_enter Try.func35, Try.ntmps35
  go_wp2
  go_ret2
  exact ⟨rfl, rfl⟩
theorem cutterOf_any (s : ByteArray) (hs : s.size ≤ 140) (w : World) :
    Calls Try.prog 26 #[.string s] w fun e w' => e = .returned (cutter (w.heap.size + 1) w.heap.size) ∧ Cut w' (w.heap.size + 1) w.heap.size s 0 ∧ Below w.heap.size w w' ∧ w'.heap.size = w.heap.size + 2 := by
  go_enter Try.func26, Try.ntmps26
  go_wp2
  go_ret
  refine ⟨rfl, ⟨?_, ?_, Nat.zero_le _, hs⟩, ((Below.refl _ _).alloc (Nat.le_refl _) _).alloc (by simp) _, by simp⟩
  · have := Blk.new (w.alloc (.cells #[.string s] 9)) 3 #[.int .i64 0]
    simpa using this
  · exact (Blk.new w 9 #[.string s]).alloc _

/-- what is cut off as a number -/
theorem or_low (n b : Nat) (hn : n < 72057594037927936) (hb : b < 256) : bits BinOp.or IntKind.u64 (((n * 256 : Nat) : Nat) : Int) (b : Int) = ((n * 256 + b : Nat) : Int) := by
  have hx : n * 256 ||| b < 2 ^ 64 := Nat.or_lt_two_pow (by omega) (by omega)
  have h1 : (BitVec.ofInt 64 (((n * 256 : Nat) : Nat) : Int)).toNat = n * 256 := by
    rw [BitVec.ofInt_natCast, BitVec.toNat_ofNat]; exact Nat.mod_eq_of_lt (by omega)
  have h2 : (BitVec.ofInt 64 (b : Int)).toNat = b := by
    rw [BitVec.ofInt_natCast, BitVec.toNat_ofNat]; exact Nat.mod_eq_of_lt (by omega)
  have h := Nat.two_pow_add_eq_or_of_lt (i := 8) (b := b) (by omega) n
  show IntKind.u64.wrap ((BitVec.ofInt 64 (((n * 256 : Nat) : Nat) : Int) ||| BitVec.ofInt 64 (b : Int)).toNat : Int) = _
  rw [BitVec.toNat_or, h1, h2, IntKind.wrap_u64]
  rw [show n * 256 ||| b = n * 256 + b by rw [Nat.mul_comm, ← h, Nat.mul_comm]]
  omega
theorem xor_back (m : Nat) (hm : m < 18446744073709551616) : IntKind.i64.wrap (bits BinOp.xor IntKind.u64 (m : Int) 9223372036854775808) = (m : Int) - 9223372036854775808 := by
  have hx := bits_xor_u64_nat m 9223372036854775808 hm (by omega)
  have hx : bits BinOp.xor IntKind.u64 (m : Int) 9223372036854775808 = ((m ^^^ 9223372036854775808 : Nat) : Int) := hx
  rw [hx]
  rcases Nat.lt_or_ge m 9223372036854775808 with h | h
  · have := xor_lo m (by omega)
    rw [show (2 : Nat) ^ 63 = 9223372036854775808 by decide] at this
    rw [this, IntKind.wrap_i64]
    omega
  · have := xor_hi (m - 9223372036854775808) (by omega)
    rw [show (2 : Nat) ^ 63 = 9223372036854775808 by decide, show 9223372036854775808 + (m - 9223372036854775808) = m by omega] at this
    rw [this, IntKind.wrap_i64]
    omega
theorem val_at (t : ByteArray) (j : Nat) (h : j < t.size) : val ((sb t).take (j + 1)) = val ((sb t).take j) * 256 + t[j].toNat := by
  rw [sb_at t j h, val_snoc]
set_option maxRecDepth 100000 in
set_option maxHeartbeats 1000000 in
theorem cutNumber_any (gp gs : Nat) (s : ByteArray) (p : Nat) (w : World) (h : Cut w gp gs s p) :
    Calls Try.prog 36 #[cutter gp gs] w fun e w' => if p + 8 ≤ s.size then e = .returned (.tuple #[.int .i64 ((val (((sb s).drop p).take 8) : Int) - 9223372036854775808), .bool true]) ∧ Cut w' gp gs s (p + 8) ∧ Cf gp w w'
      else e = .returned (.tuple #[.int .i64 0, .bool false]) ∧ w' = w := by
  by_cases h8 : p + 8 ≤ s.size
  · have HC := Lib.hid (cut_yes gp gs s p 8 w h h8)
    have HT := Lib.hid (h.to h8)
    unfold cutter
    clear h
    go_enter Try.func36, Try.ntmps36
    go_wp2_with (go_at_call 35; refine HC.out.mono ?_; rintro e w1 ⟨t, rfl, ht, htz, rfl⟩; have HTT := Lib.hid ht; clear ht)
    go_loopw [6, 15] (fun a i wr => ∃ k : Nat, k ≤ 8 ∧ i = .int .i64 (k : Int) ∧ a = .int .u64 (val ((sb t).take k) : Int) ∧ wr = w.setCell ⟨gp, 0, none⟩ (.int .i64 ((p + 8 : Nat) : Int))) (fun _ i _ => 8 - (intOf i).toNat)
    case atStart => exact ⟨0, by omega, rfl, by simp [val], rfl⟩
    case round =>
      obtain ⟨k, hk, rfl, rfl, rfl⟩ := hrel
      have hvl : val ((sb t).take k) < 256 ^ k := by
        have := val_lt ((sb t).take k) (fun x hx => sb_lt t x (List.mem_of_mem_take hx))
        rw [List.length_take, sb_len, htz, Nat.min_eq_left hk] at this
        exact this
      by_cases hlt : k < 8
      · have hkt : k < t.size := by omega
        have hb := t[k].toNat_lt
        have hva := val_at t k hkt
        have h7 : val ((sb t).take k) < 72057594037927936 := Nat.lt_of_lt_of_le hvl (by
          have := Nat.pow_le_pow_right (n := 256) (i := k) (j := 7) (by omega) (by omega)
          exact this)
        obtain ⟨m, hm⟩ : ∃ m, m = val ((sb t).take k) := ⟨_, rfl⟩
        rw [← hm] at h7 hva ⊢
        have hor := or_low m t[k].toNat h7 hb
        have hsh : IntKind.u64.wrap ((m : Int) * 256) = ((m * 256 : Nat) : Int) := by rw [IntKind.wrap_u64]; omega
        clear hvl
        go_wp2
        go_roundw
        case rel =>
          refine ⟨k + 1, by omega, by go_num, ?_, by simp⟩
          have e : ((m * 256 : Nat) : Int) = (m : Int) * 256 := by omega
          rw [hva, ← hor, e, hm]
        case measure => simp [intOf]; omega
      · obtain rfl : k = 8 := by omega
        have hfull : (sb t).take 8 = sb t := List.take_of_length_le (by rw [sb_len]; omega)
        rw [hfull] at hvl ⊢
        have hxb := xor_back (val (sb t)) (by simpa using hvl)
        have HVE : Hid (val (((sb s).drop p).take 8) = val (sb t)) := (by show _ = _; rw [HTT.out])
        obtain ⟨m, hm⟩ : ∃ m, m = val (sb t) := ⟨_, rfl⟩
        rw [← hm] at hxb HVE ⊢
        have HG : Hid (Cut (w.setCell ⟨gp, 0, none⟩ (.int .i64 ((p + 8 : Nat) : Int))) gp gs s (p + 8)) := HT.out
        clear hvl hfull hm
        go_wp2
        go_ret2
        rw [HVE.out]
        exact ⟨rfl, by simpa using HG.out, by simpa using Cf.set (w := w) (gp := gp) (.int .i64 ((p + 8 : Nat) : Int))⟩
  · have HC := Lib.hid (cut_no gp gs s p 8 w h h8)
    unfold cutter
    clear h
    go_enter Try.func36, Try.ntmps36
    go_wp2_with (go_at_call 35; refine HC.out.mono ?_; rintro e w1 ⟨rfl, rfl⟩)
    go_ret2
    exact ⟨rfl, rfl⟩

/-! ### A text that is cut off -/
/-- the place that stands in memory -/
def placeOf (w : World) (gp : Nat) : Nat := match w.cell? ⟨gp, 0, none⟩ with | some (.int _ n) => n.toNat | _ => 0
theorem Cut.place {w : World} {gp gs : Nat} {s : ByteArray} {p : Nat} (h : Cut w gp gs s p) : placeOf w gp = p := by
  unfold placeOf
  rw [h.facts.1]
  simp
theorem unT_cons {x : Nat} (hx : x ≠ 0) (r : List Nat) : unT (x :: r) = (unT r).map fun q => (x :: q.1, q.2) := by
  cases r with
  | nil => simp [unT]
  | cons y l => simp only [unT, if_neg hx]
theorem unT_stays (r : List Nat) : unT (0 :: 255 :: r) = (unT r).map fun q => (0 :: q.1, q.2) := by simp [unT]
theorem unT_ends (r : List Nat) : unT (0 :: 1 :: r) = some ([], r) := by simp [unT]
theorem unT_bad {y : Nat} (h1 : y ≠ 1) (h2 : y ≠ 255) (r : List Nat) : unT (0 :: y :: r) = none := by simp [unT, h1, h2]
theorem drop_at (s : ByteArray) (p : Nat) (h : p < s.size) : (sb s).drop p = s[p].toNat :: (sb s).drop (p + 1) := by
  have hl : p < (sb s).length := by rw [sb_len]; exact h
  rw [List.drop_eq_getElem_cons hl]
  congr 1
  simp only [sb, List.getElem_map, Array.getElem_toList]
  rfl
theorem drop_end (s : ByteArray) (p : Nat) (h : ¬ p + 1 ≤ s.size) : (sb s).drop p = [] := List.drop_of_length_le (by rw [sb_len]; omega)
theorem byte_of {t : ByteArray} {x : Nat} {l : List Nat} (h : sb t = (x :: l).take 1) (hz : t.size = 1) : t[0].toNat = x := by
  have e := sb_at t 0 (by omega)
  rw [h] at e
  simpa using e.symm
/-- the text so far -/
structure Tx (w wr : World) (gp gs : Nat) (s : ByteArray) (p : Nat) (u : Value) (l : List Nat) : Prop where
  cut : Cut wr gp gs s p
  row : Ow wr (fun b => w.heap.size ≤ b) u l.length l
  cf : Cf gp w wr
  lt : gp < w.heap.size
theorem Tx.to {w wr : World} {gp gs : Nat} {s : ByteArray} {p q : Nat} {u : Value} {l : List Nat} (h : Tx w wr gp gs s p u l) (hq : q ≤ s.size) : Tx w (wr.setCell ⟨gp, 0, none⟩ (.int .i64 (q : Int))) gp gs s q u l :=
  ⟨h.cut.to hq, h.row.keep (Cf.set (gp := gp) _) (fun b hb e => by have := h.lt; omega), h.cf.trans (Cf.set _), h.lt⟩
theorem Tx.alloc {w wr : World} {gp gs : Nat} {s : ByteArray} {p : Nat} {u : Value} {l : List Nat} (h : Tx w wr gp gs s p u l) (o : Obj) : Tx w (wr.alloc o) gp gs s p u l :=
  ⟨h.cut.alloc o, h.row.alloc o, Fr.alloc h.cf o, h.lt⟩
theorem Tx.step {w wr w1 : World} {gp gs : Nat} {s : ByteArray} {p n' : Nat} {u v' : Value} {l l' : List Nat} (h : Tx w wr gp gs s p u l) (hgrow : wr.grownBy w1 u.ownBlock) (hn : Ow w1 (fun b => w.heap.size ≤ b ∨ wr.heap.size ≤ b) v' n' l') : Tx w w1 gp gs s p v' l' := by
  have hs : w.heap.size ≤ wr.heap.size := Fr.size h.cf
  have hl := hn.len
  subst hl
  refine ⟨⟨h.cut.1.grown hgrow (Blk.own_ne h.cut.1 h.row.1 (by decide)), h.cut.2.1.grown hgrow (Blk.own_ne h.cut.2.1 h.row.1 (by decide)), h.cut.2.2⟩, hn.mono fun b _ hb => by omega, ?_, h.lt⟩
  exact Fr.trans (T := fun b => some b = u.ownBlock) h.cf ⟨hgrow.os, hgrow.tape, hgrow.output, hgrow.size, fun b hb hn => hgrow.block b hb hn⟩ fun b hb => Or.inr (h.row.2.2 b hb.symm)
/-- what cutText answers -/
def TextOut (w : World) (gp gs : Nat) (s : ByteArray) (p : Nat) (e : Ending) (w' : World) : Prop :=
  Cf gp w w' ∧ ((∃ t r q, unT ((sb s).drop p) = some (t, r) ∧ (∀ x ∈ t, x < 256) ∧ e = .returned (.tuple #[.string (bs t), .bool true]) ∧ Cut w' gp gs s q ∧ r = (sb s).drop q) ∨
    (unT ((sb s).drop p) = none ∧ e = .returned (.tuple #[.string ⟨#[]⟩, .bool false])))
set_option maxRecDepth 100000 in
set_option maxHeartbeats 2000000 in
theorem cutText_any (gp gs : Nat) (s : ByteArray) (p : Nat) (w : World) (h : Cut w gp gs s p) :
    Calls Try.prog 37 #[cutter gp gs] w (TextOut w gp gs s p) := by
  have H0 := Lib.hid h
  have h140 := h.2.2.2
  clear h
  unfold cutter
  go_enter Try.func37, Try.ntmps37
  go_wp2
  go_step3
  go_wp2
  go_step3
  go_wp2
  go_loopw [4] (fun v0 wr => ∃ (q : Nat) (l : List Nat) (u : Value), u = v0 ∧ Tx w wr gp gs s q u l ∧ l.length ≤ q ∧ unT ((sb s).drop p) = (unT ((sb s).drop q)).map fun z => (l ++ z.1, z.2)) (fun _ wr => s.size - placeOf wr gp)
  case atStart => exact ⟨p, [], _, rfl, ⟨H0.out, Ow.nil_ _ _, Cf.refl _ _, H0.out.1.lt⟩, by simp, by simp⟩
  case round =>
    obtain ⟨q, l, u, rfl, htx, hlq, hun⟩ := hrel
    have hqs := htx.cut.2.2.1
    have hpl := htx.cut.place
    have HT := Lib.hid htx
    have HU := Lib.hid hun
    have HP := Lib.hid hpl
    clear htx hun hpl H0
    by_cases h1 : q + 1 ≤ s.size
    · have hd := drop_at s q h1
      have HC := Lib.hid (cut_yes gp gs s q 1 _ HT.out.cut h1)
      have HT1 := Lib.hid (HT.out.to h1)
      have hx256 := s[q].toNat_lt
      generalize hxe : s[q].toNat = x at hd hx256
      have HD := Lib.hid hd
      clear hd hxe
      go_wp2_with fail
      refine HC.out.mono ?_
      rintro e w1 ⟨t, rfl, ht, htz, hw1⟩
      rw [HD.out] at ht
      have hx := byte_of ht htz
      replace hw1 := hw1.symm
      have HT1 := Lib.hid (show Tx w w1 gp gs s (q + 1) u l by rw [← hw1]; exact HT1.out)
      clear ht hw1 HC
      by_cases hx0 : x = 0
      · subst hx0
        by_cases h2 : q + 1 + 1 ≤ s.size
        · have hd2 := drop_at s (q + 1) h2
          have HC2 := Lib.hid (cut_yes gp gs s (q + 1) 1 _ HT1.out.cut h2)
          have HT2 := Lib.hid (HT1.out.to h2)
          have hy256 := s[q + 1].toNat_lt
          generalize hye : s[q + 1].toNat = y at hd2 hy256
          have HD2 := Lib.hid hd2
          clear hd2 hye
          go_wp2_with fail
          refine HC2.out.mono ?_
          rintro e w2 ⟨t2, rfl, ht2, htz2, hw2⟩
          rw [HD2.out] at ht2
          have hy := byte_of ht2 htz2
          replace hw2 := hw2.symm
          have HT2 := Lib.hid (show Tx w w2 gp gs s (q + 1 + 1) u l by rw [← hw2]; exact HT2.out)
          clear ht2 hw2 HC2
          by_cases hy1 : y = 1
          · subst hy1
            obtain ⟨A, c, rfl, _, _, hr⟩ := HT2.out.row.reads
            have hcv := run_conv _ A _ c l w2 hr
            clear hr
            go_wp2
            try rw [Exit.noGoto_ret]
            go_ret2
            refine ⟨HT2.out.cf, Or.inl ⟨l, _, _, ?_, HT2.out.row.2.1, rfl, HT2.out.cut, rfl⟩⟩
            rw [HU.out, HD.out, HD2.out, unT_ends]
            simp
          · have hz1 : ((y : Int) == 1) = false := by simp; omega
            by_cases hy2 : y = 255
            · subst hy2
              go_wp2_with (at_builtin; go_must (refine wpList_app rfl (.tmp 35) (.tmp 38) rfl u _ l rfl (HT2.out.alloc _).row (fun _ => True) _ 1 1 [0] rfl (by exact one_at _ _ 0 _ (by simp) (by rfl) (by omega)) (by omega) ?_); intro v1 w3 hown hgrow; have HS := Lib.hid (Tx.step (HT2.out.alloc _) hgrow hown); clear hown hgrow)
              go_roundw
              case rel =>
                refine ⟨q + 1 + 1, l ++ [0], _, rfl, HS.out, by simp; omega, ?_⟩
                rw [HU.out, HD.out, HD2.out, unT_stays]
                simp [Option.map_map, Function.comp_def]
              case measure =>
                show _ - placeOf w3 gp < _ - placeOf wr gp
                rw [HS.out.cut.place, HP.out]
                omega
            · have hz2 : ((y : Int) == 255) = false := by simp; omega
              go_wp2
              try rw [Exit.noGoto_ret]
              go_ret2
              refine ⟨HT2.out.cf, Or.inr ⟨?_, rfl⟩⟩
              rw [HU.out, HD.out, HD2.out, unT_bad hy1 hy2]
              rfl
        · have HC2 := Lib.hid (cut_no gp gs s (q + 1) 1 _ HT1.out.cut h2)
          go_wp2_with fail
          refine HC2.out.mono ?_
          rintro e w2 ⟨rfl, rfl⟩
          go_wp2
          try rw [Exit.noGoto_ret]
          go_ret2
          refine ⟨HT1.out.cf, Or.inr ⟨?_, rfl⟩⟩
          rw [HU.out, HD.out, drop_end s (q + 1) h2]
          rfl
      · have hz : ((x : Int) == 0) = false := by simp; omega
        go_wp2_with (at_builtin; go_must (refine wpList_app rfl (.tmp 35) (.tmp 38) rfl u _ l rfl (HT1.out.alloc _).row (fun _ => True) _ 1 1 [x] rfl (by exact one_at _ _ x _ (by simp) (by rfl) (by omega)) (by omega) ?_); intro v1 w2 hown hgrow; have HS := Lib.hid (Tx.step (HT1.out.alloc _) hgrow hown); clear hown hgrow)
        go_roundw
        case rel =>
          refine ⟨q + 1, l ++ [x], _, rfl, HS.out, by simp; omega, ?_⟩
          rw [HU.out, HD.out, unT_cons hx0]
          simp [Option.map_map, Function.comp_def]
        case measure =>
          show _ - placeOf w2 gp < _ - placeOf wr gp
          rw [HS.out.cut.place, HP.out]
          omega
    · have HC := Lib.hid (cut_no gp gs s q 1 _ HT.out.cut h1)
      go_wp2_with fail
      refine HC.out.mono ?_
      rintro e w1 ⟨rfl, rfl⟩
      go_wp2
      try rw [Exit.noGoto_ret]
      go_ret2
      refine ⟨HT.out.cf, Or.inr ⟨?_, rfl⟩⟩
      rw [HU.out, drop_end s q h1]
      rfl
end Go.Proofs.Ytjhlfgomoookjaa
