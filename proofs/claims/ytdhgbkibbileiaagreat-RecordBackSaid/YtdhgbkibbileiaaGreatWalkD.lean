/-
  THE WALKS OF THE WRITER's LAST CALLS, AND OF WHAT THE DOCUMENT WRITES: Int, Text, Raw, Bytes; Fixed, Uint, Text of the document.
-/
import Derived.Test.YtdhgbkibbileiaaGreatWalkC
import Derived.Deep.DeepMust
namespace Go.Proofs.YtdhgbkibbileiaaGreat
open Go.RowKit

set_option maxRecDepth 100000 in
theorem Wi.of_wr {w w' : World} {S : Nat → Prop} {g : Nat} {l : List Nat} (hS : S g) (h : Wr w' (Up S w) (some g) true l) (hf : Fr w w' S) : Wi w S g l w' := by
  obtain ⟨_, v, n, h2, h3⟩ := h
  exact ⟨hS, v, n, h2, h3, hf⟩

set_option maxRecDepth 100000 in
theorem wtext_some (w : World) (S : Nat → Prop) (g : Nat) (l : List Nat) (s : ByteArray) (hs : s.size ≤ 1099511627776) (hl : l.length ≤ 1099511627776) (h : Wr w S (some g) true l) :
    Calls Tryz.prog 109 #[ptr (some g), .string s] w fun e w' => e = .returned (.tuple #[]) ∧ Wr w' (Up S w) (some g) true (l ++ Cd.tx (bs s)) ∧ Fr w w' S := by
  have HW := Lib.hid (writable_any w S (some g) true l h)
  have HC := Lib.hid (wuint_some w S g l s.size (by omega) hl h)
  have hSg : S g := h.1
  have h10 := Cd.vi_len10 s.size (by omega)
  clear h
  simp only [ptr, Option.map] at HW HC ⊢
  go_enter Tryz.func109, Tryz.ntmps109
  go_wp2_with (go_at_call 95; refine HW.out.mono ?_; rintro e w' ⟨rfl, rfl⟩)
  go_wp2_with fail
  refine HC.out.mono ?_
  rintro e w1 ⟨rfl, hw, hf⟩
  obtain ⟨_, v, n, hb, ho⟩ := hw
  have hln := ho.len
  rw [List.length_append] at hln
  have hn2 : n ≤ 1099511627776 + 10 := by omega
  have HB := Lib.hid hb
  have HO := Lib.hid ho
  have HF := Lib.hid hf
  have hcc : w1.cell? ⟨g, 1, none⟩ = some v := by simpa using hb.cell 1
  clear hb ho hf hln
  go_wp2_with (at_builtin; go_must (refine wpList_app_str rfl (.tmp 16) (.tmp 17) rfl v n (l ++ Cd.vi s.size) rfl HO.out s (bs s) rfl (bs_cells s) (bs_lt s) (by omega) ?_); intro v1 w2 hown hgrow; obtain ⟨A1, cc1, rfl, _, _, _⟩ := hown.reads; obtain ⟨hc1, hf1⟩ := push_cell HB.out HO.out hgrow; have HS := Lib.hid (Wi.step hSg HB.out HO.out HF.out hgrow hown); clear hown hgrow)
  go_end0
  have hd := Wi.done HS.out
  refine ⟨rfl, ?_⟩
  rw [Cd.tx, bs_len, ← List.append_assoc]
  exact hd
set_option maxRecDepth 100000 in
theorem wtext_any (w : World) (S : Nat → Prop) (p : Option Nat) (ok : Bool) (l : List Nat) (s : ByteArray) (hs : s.size ≤ 1099511627776) (hl : l.length ≤ 1099511627776) (h : Wr w S p ok l) :
    Calls Tryz.prog 109 #[ptr p, .string s] w fun e w' => e = .returned (.tuple #[]) ∧ Wrote w S p ok l (Cd.tx (bs s)) w' := by
  cases ok with
  | true =>
    obtain ⟨g, rfl⟩ := some_of_true h
    exact (wtext_some w S g l s hs hl h).mono fun e w' hh => ⟨hh.1, Wrote.of_true hh.2⟩
  | false =>
    have HW := Lib.hid (writable_any w S p false l h)
    have HR := Lib.hid (Wrote.of_false h (Cd.tx (bs s)))
    clear h
    go_enter Tryz.func109, Tryz.ntmps109
    go_wp2_with (go_at_call 95; refine HW.out.mono ?_; rintro e w' ⟨rfl, rfl⟩)
    refine bodyPost_ret (results_none rfl _ _ _) rfl ?_
    exact ⟨rfl, HR.out⟩

set_option maxRecDepth 100000 in
theorem wraw_any (w : World) (S T : Nat → Prop) (p : Option Nat) (ok : Bool) (l : List Nat) (A : Option Addr) (m c : Nat) (k : List Nat) (hr : RB w T A m k) (hm : m ≤ 1099511627776) (hl : l.length ≤ 1099511627776) (h : Wr w S p ok l) :
    Calls Tryz.prog 44 #[ptr p, .slice A m c] w fun e w' => e = .returned (.tuple #[]) ∧ Wrote w S p ok l k w' := by
  have HW := Lib.hid (writable_any w S p ok l h)
  cases ok with
  | true =>
    obtain ⟨g, rfl⟩ := some_of_true h
    obtain ⟨hSg, v, n, hb, ho⟩ := h
    have hln := ho.len
    have hn2 : n ≤ 1099511627776 + 10 := by omega
    have HB := Lib.hid hb
    have HO := Lib.hid ho
    have HR := Lib.hid hr
    have hcc : w.cell? ⟨g, 1, none⟩ = some v := by simpa using hb.cell 1
    clear hb ho hln hr
    simp only [ptr, Option.map] at HW ⊢
    go_enter Tryz.func44, Tryz.ntmps44
    go_wp2_with (first | (go_at_call 95; refine HW.out.mono ?_; rintro e w' ⟨rfl, rfl⟩) | (at_builtin; go_must (refine wpList_app rfl (.tmp 11) (.tmp 12) rfl v n l rfl HO.out T A m c k rfl HR.out (by omega) ?_); intro v1 w2 hown hgrow; obtain ⟨A1, cc1, rfl, _, _, _⟩ := hown.reads; obtain ⟨hc1, hf1⟩ := push_cell HB.out HO.out hgrow; have HS := Lib.hid (push hSg HB.out HO.out hgrow hown); clear hown hgrow))
    go_end0
    obtain ⟨h1, h2, h3⟩ := HS.out
    exact ⟨rfl, Wrote.of_true ⟨⟨Or.inl hSg, _, _, h1, h2⟩, h3⟩⟩
  | false =>
    have HR := Lib.hid (Wrote.of_false h k)
    clear h hr
    go_enter Tryz.func44, Tryz.ntmps44
    go_wp2_with (go_at_call 95; refine HW.out.mono ?_; rintro e w' ⟨rfl, rfl⟩)
    refine bodyPost_ret (results_none rfl _ _ _) rfl ?_
    exact ⟨rfl, HR.out⟩

/-! ### New rows -/
/-- a new row with the bytes l is answered; what was there is as it was -/
def New (w : World) (l : List Nat) (e : Ending) (w' : World) : Prop := ∃ v, e = .returned v ∧ Ow w' (fun b => w.heap.size ≤ b) v l.length l ∧ Below w.heap.size w w'
/-- a row of the call's own that grows -/
def Own (w wr : World) (v : Value) (l : List Nat) : Prop := Ow wr (fun b => w.heap.size ≤ b) v l.length l ∧ Below w.heap.size w wr
set_option maxRecDepth 100000 in
theorem Own.nil_ (w : World) : Own w w (.slice none 0 0) [] := ⟨Ow.nil_ _ _, Below.refl _ _⟩
set_option maxRecDepth 100000 in
theorem Own.made (w : World) : Own w (w.alloc (.cells #[] 5)) (.slice (some ⟨w.heap.size, 0, none⟩) 0 0) [] := ⟨Ow.made _ _ (Nat.le_refl _), (Below.refl _ _).alloc (Nat.le_refl _) _⟩
set_option maxRecDepth 100000 in
theorem Own.step {w wr w1 : World} {v v' : Value} {n' : Nat} {l l' : List Nat} (h : Own w wr v l) (hgrow : wr.grownBy w1 v.ownBlock) (hn : Ow w1 (fun b => w.heap.size ≤ b ∨ wr.heap.size ≤ b) v' n' l') : Own w w1 v' l' := by
  have hs := h.2.size
  have hl := hn.len
  subst hl
  exact ⟨hn.mono fun b _ hb => by omega, h.2.grown hgrow hs fun k hk => h.1.2.2 k hk⟩
set_option maxRecDepth 100000 in
theorem Own.alloc {w wr : World} {v : Value} {l : List Nat} (h : Own w wr v l) (o : Obj) : Own w (wr.alloc o) v l := ⟨h.1.alloc o, h.2.alloc h.2.size o⟩
set_option maxRecDepth 100000 in
theorem Own.new {w wr : World} {v : Value} {l : List Nat} (h : Own w wr v l) : New w l (.returned v) wr := ⟨v, rfl, h.1, h.2⟩

set_option maxRecDepth 100000 in
theorem clone_any (w : World) (T : Nat → Prop) (A : Option Addr) (n c : Nat) (l : List Nat) (hr : RB w T A n l) (hn : n ≤ 140737488351232) :
    Calls Tryz.prog 50 #[.slice A n c] w (New w l) := by
  rcases A with _ | ad
  · have h0 : n = 0 := by
      rcases Nat.eq_zero_or_pos n with h0 | h0
      · exact h0
      · obtain ⟨_, e, _⟩ := hr.2.2 h0
        cases e
    subst h0
    have hk : l = [] := List.eq_nil_of_length_eq_zero hr.1
    subst hk
    clear hr
    have he := fun W : World => Lib.run_eql_slice_nil (P := Tryz.prog) W 24 5 none 0 c 0 0 Tryz.underlying24
    go_enter Tryz.func50, Tryz.ntmps50
    go_wp2
    go_ret
    exact (Own.nil_ w).new
  · have he := fun W : World => Lib.run_eql_slice_nil (P := Tryz.prog) W 24 5 (some ad) n c 0 0 Tryz.underlying24
    have HR := Lib.hid (hr.alloc (.cells #[] 5))
    have HO := Lib.hid (Own.made w)
    clear hr
    go_enter Tryz.func50, Tryz.ntmps50
    go_wp2_with (at_builtin; go_must (refine wpList_app rfl (.tmp 5) (.tmp 6) rfl _ 0 [] rfl HO.out.1 T (some ad) n c l rfl HR.out (by omega) ?_); intro v1 w2 hown hgrow; have HS := Lib.hid (Own.step HO.out hgrow hown); clear hown hgrow)
    go_ret
    exact HS.out.new

set_option maxRecDepth 100000 in
theorem wbytes_any (w : World) (S : Nat → Prop) (p : Option Nat) (ok : Bool) (l : List Nat) (h : Wr w S p ok l) (hl : l.length ≤ 140737488351232) :
    Calls Tryz.prog 45 #[ptr p] w (New w l) := by
  cases p with
  | none =>
    obtain ⟨_, rfl⟩ := h
    simp only [ptr, Option.map]
    go_enter Tryz.func45, Tryz.ntmps45
    go_wp2
    go_ret
    exact (Own.nil_ w).new
  | some g =>
    obtain ⟨_, v, n, hb, ho⟩ := h
    have hn := ho.len
    obtain ⟨A, c, rfl, _, _, hr⟩ := ho.reads
    have hc := hb.cell 1
    simp only [ptr, Option.map]
    have HC := Lib.hid (clone_any w S A n c l hr (by omega))
    clear hb hn ho hr
    go_enter Tryz.func45, Tryz.ntmps45
    go_wp2_with (go_at_call 50; refine HC.out.mono ?_; rintro e w' ⟨v, rfl, hv⟩; have HV := Lib.hid hv; clear hv)
    go_ret
    exact Own.new HV.out

/-! ### What the document writes -/
set_option maxRecDepth 100000 in
theorem rfixed_any (w : World) (x k : Nat) (hx : x < 18446744073709551616) (hk : k ≤ 8) :
    Calls Tryz.prog 26 #[.int .u64 (x : Int), .int .i64 (k : Int)] w (New w (Cd.fixB k x)) := by
  go_enter Tryz.func26, Tryz.ntmps26
  go_wp2
  go_loopw [0, 5, 6] (fun y v0 i wr => ∃ (j : Nat) (v : Value), v = v0 ∧ j ≤ k ∧ y = .int .u64 ((x / 256 ^ j : Nat) : Int) ∧ i = .int .i64 (j : Int) ∧ Own w wr v (Cd.fixB j x)) (fun _ _ i _ => k - (intOf i).toNat)
  case atStart => exact ⟨0, _, rfl, by omega, by simp, rfl, Own.nil_ w⟩
  case round =>
    obtain ⟨j, v, rfl, hj, rfl, rfl, ho⟩ := hrel
    have HO := Lib.hid ho
    clear ho
    have hy : x / 256 ^ j < 18446744073709551616 := Nat.lt_of_le_of_lt (Nat.div_le_self _ _) hx
    have hlj : (Cd.fixB j x).length ≤ 8 := by rw [Cd.fixB_len]; omega
    obtain ⟨y, hye⟩ : ∃ y, y = x / 256 ^ j := ⟨_, rfl⟩
    rw [← hye] at hy ⊢
    have HY := Lib.hid hye
    clear hye
    by_cases hlt : j < k
    · go_wp2_with (at_builtin; go_must (refine wpList_app rfl (.tmp 12) (.tmp 16) rfl v _ (Cd.fixB j x) rfl (HO.out.alloc _).1 (fun _ => True) (some ⟨wr.heap.size, 0, none⟩) 1 1 [y % 256] rfl (one_of _ _ _ (by omega) (by omega)) (by omega) ?_); intro v1 w1 hown hgrow; have HS := Lib.hid (Own.step (HO.out.alloc _) hgrow hown); clear hown hgrow)
      go_roundw
      case rel =>
        refine ⟨j + 1, _, rfl, by omega, ?_, by go_num, ?_⟩
        · rw [Nat.pow_succ, ← Nat.div_div_eq_div_mul, ← HY.out]
          go_num
        · rw [Cd.fixB_snoc, ← HY.out]
          exact HS.out
      case measure => simp [intOf]; omega
    · obtain rfl : j = k := by omega
      go_wp2
      go_ret
      exact HO.out.new

set_option maxRecDepth 100000 in
theorem ruint_any (w : World) (x : Nat) (hx : x < 18446744073709551616) :
    Calls Tryz.prog 96 #[.int .u64 (x : Int)] w (New w (Cd.vi x)) := by
  have h10 := Cd.vi_len10 x hx
  go_enter Tryz.func96, Tryz.ntmps96
  go_wp2
  go_loopw [0, 3] (fun y0 v0 wr => ∃ (y : Nat) (v : Value) (l : List Nat), v = v0 ∧ y0 = .int .u64 (y : Int) ∧ y ≤ x ∧ Own w wr v l ∧ l ++ Cd.vi y = Cd.vi x) (fun y _ _ => (intOf y).toNat)
  case atStart => exact ⟨x, _, [], rfl, rfl, Nat.le_refl _, Own.nil_ w, rfl⟩
  case round =>
    obtain ⟨y, v, l, rfl, rfl, hy, ho, hv⟩ := hrel
    have hn : l.length ≤ 10 := by
      have := congrArg List.length hv
      simp only [List.length_append] at this
      omega
    have HO := Lib.hid ho
    have HV := Lib.hid hv
    clear ho hv
    by_cases hlt : 128 ≤ y
    · go_wp2_with (at_builtin; go_must (refine wpList_app rfl (.tmp 6) (.tmp 11) rfl v _ l rfl (HO.out.alloc _).1 (fun _ => True) (some ⟨wr.heap.size, 0, none⟩) 1 1 [128 + y % 128] rfl (one_of _ _ _ (by omega) (by omega)) (by omega) ?_); intro v1 w1 hown hgrow; have HS := Lib.hid (Own.step (HO.out.alloc _) hgrow hown); clear hown hgrow)
      go_roundw
      case rel =>
        refine ⟨y / 128, _, l ++ [128 + y % 128], rfl, by go_num, by omega, HS.out, ?_⟩
        have hv := HV.out
        rw [Cd.vi_big (by omega)] at hv
        rw [← hv]
        simp
      case measure => simp [intOf]; omega
    · go_wp2_with (at_builtin; go_must (refine wpList_app rfl (.tmp 15) (.tmp 18) rfl v _ l rfl (HO.out.alloc _).1 (fun _ => True) (some ⟨wr.heap.size, 0, none⟩) 1 1 [y] rfl (one_of _ _ _ (by omega) (by omega)) (by omega) ?_); intro v1 w1 hown hgrow; have HS := Lib.hid (Own.step (HO.out.alloc _) hgrow hown); clear hown hgrow)
      go_ret
      have hv := HV.out
      rw [Cd.vi_small (by omega)] at hv
      rw [← hv]
      exact HS.out.new

set_option maxRecDepth 100000 in
theorem bs_at (s : ByteArray) (j : Nat) (h : j < s.size) : (bs s).take (j + 1) = (bs s).take j ++ [s[j].toNat] := by
  have hl : j < (bs s).length := by rw [bs_len]; exact h
  rw [List.take_succ_eq_append_getElem hl]
  congr 1
  simp only [bs, List.getElem_map, Array.getElem_toList]
  rfl

set_option maxRecDepth 100000 in
theorem rtext_any (w : World) (s : ByteArray) (hs : s.size ≤ 1099511627776) :
    Calls Tryz.prog 47 #[.string s] w (New w (Cd.tx (bs s))) := by
  have HC := Lib.hid (ruint_any w s.size (by omega))
  have h10 := Cd.vi_len10 s.size (by omega)
  go_enter Tryz.func47, Tryz.ntmps47
  go_wp2_with fail
  refine HC.out.mono ?_
  rintro e w1 ⟨v1, rfl, ho1, hb1⟩
  have HO1 := Lib.hid (show Own w w1 v1 _ from ⟨ho1, hb1⟩)
  clear ho1 hb1
  go_wp2
  go_loopw [3, 4] (fun v0 i wr => ∃ (j : Nat) (v : Value), v = v0 ∧ j ≤ s.size ∧ i = .int .i64 (j : Int) ∧ Own w wr v (Cd.vi s.size ++ (bs s).take j)) (fun _ i _ => s.size - (intOf i).toNat)
  case atStart => exact ⟨0, _, rfl, by omega, rfl, by simpa using HO1.out⟩
  case round =>
    obtain ⟨j, v, rfl, hj, rfl, ho⟩ := hrel
    have hn : (Cd.vi s.size ++ (bs s).take j).length ≤ 10 + j := by simp; omega
    have HO := Lib.hid ho
    clear ho
    by_cases hlt : j < s.size
    · have hby : s[j].toNat < 256 := s[j].toNat_lt
      go_wp2_with (at_builtin; go_must (refine wpList_app rfl (.tmp 15) (.tmp 19) rfl v _ _ rfl (HO.out.alloc _).1 (fun _ => True) (some ⟨wr.heap.size, 0, none⟩) 1 1 [s[j].toNat] rfl (one_of _ _ _ (by rfl) (by omega)) (by omega) ?_); intro v1 w1 hown hgrow; have HS := Lib.hid (Own.step (HO.out.alloc _) hgrow hown); clear hown hgrow)
      go_roundw
      case rel =>
        refine ⟨j + 1, _, rfl, by omega, by go_num, ?_⟩
        rw [bs_at s j hlt, ← List.append_assoc]
        exact HS.out
      case measure => simp [intOf]; omega
    · obtain rfl : j = s.size := by omega
      go_wp2
      go_ret
      have ho := HO.out.new
      rw [List.take_of_length_le (by rw [bs_len]; omega)] at ho
      unfold Cd.tx
      rw [bs_len]
      exact ho
end Go.Proofs.YtdhgbkibbileiaaGreat
