/-
  THE WALK OF KeysDecode.
-/
import Derived.Test.YtjhlfgomoookjaaRDec
import Derived.Test.YtjhlfgomoookjaaOpen
namespace Go.Proofs.Ytjhlfgomoookjaa.keysDecode
open Go.RowKit Go.Sort
attribute [local go_sem high] run_eqv run_neqv run_eqs

def decR (s : ByteArray) : List V := (decO s).getD []
def decX (s : ByteArray) : Int := if (decO s).isSome then 0 else 5
theorem dec_uni {w w' : World} {s : ByteArray} {e : Ending} (h : Dec w s e w') : ∃ v, e = .returned (.tuple #[v, .int .i64 (decX s)]) ∧ OwnV w w' v (decR s) := by
  rcases h with ⟨r, v, hr, rfl, ho⟩ | ⟨hr, rfl, hb⟩
  · refine ⟨v, ?_, ?_⟩
    · unfold decX; rw [hr]; rfl
    · unfold decR; rw [hr]; exact ho
  · refine ⟨.slice none 0 0, ?_, ?_⟩
    · unfold decX; rw [hr]; rfl
    · unfold decR; rw [hr]; exact OwnV.nil_at hb
theorem decR_len (s : ByteArray) : (decR s).length ≤ 16 := by
  unfold decR decO
  split
  · split
    · split
      · assumption
      · exact Nat.zero_le _
    · exact Nat.zero_le _
  · exact Nat.zero_le _
theorem vcs_set (vs : List V) (j : Nat) (x : V) (h : j < vs.length) : (((vcs vs).set (j * 3) (.int .i64 x.k)).set (j * 3 + 1) (.int .i64 x.n)).set (j * 3 + 2) (.string x.s) = vcs (vs.set j x) := by
  induction vs generalizing j with
  | nil => simp at h
  | cons v r ih =>
    cases j with
    | zero => simp [vcs]
    | succ j =>
      have := ih j (by simpa using h)
      simp only [vcs, show (j + 1) * 3 = j * 3 + 1 + 1 + 1 by omega, show j * 3 + 1 + 1 + 1 + 1 = (j * 3 + 1) + 1 + 1 + 1 by omega, show j * 3 + 1 + 1 + 1 + 2 = (j * 3 + 2) + 1 + 1 + 1 by omega, List.set_cons_succ]
      rw [this]
theorem slot_at {w : World} {S : Nat → Prop} {v : Value} {n : Nat} {vs : List V} (h : OwV w S v n vs) {j : Nat} (hj : j < n) :
    ∃ g cap, v = .slice (some ⟨g, 0, none⟩) n cap ∧ S g ∧ (∃ a b c, w.cell? ⟨g, j * 3, none⟩ = some a ∧ w.cell? ⟨g, j * 3 + 1, none⟩ = some b ∧ w.cell? ⟨g, j * 3 + 2, none⟩ = some c) ∧
      (w.frozen? ⟨g, j * 3, none⟩ = false ∧ w.frozen? ⟨g, j * 3 + 1, none⟩ = false ∧ w.frozen? ⟨g, j * 3 + 2, none⟩ = false) ∧
      ∀ x : V, VOk x → OwV (((w.setCell ⟨g, j * 3, none⟩ (.int .i64 x.k)).setCell ⟨g, j * 3 + 1, none⟩ (.int .i64 x.n)).setCell ⟨g, j * 3 + 2, none⟩ (.string x.s)) S v n (vs.set j x) := by
  have hln := h.len
  obtain ⟨ho, hl, hS⟩ := h
  rcases ho.2 with ⟨_, h0⟩ | ⟨g, cap, cur, rfl, _, hg, hc, _, hcur, htake⟩
  · omega
  · have hv : vs[j]? = some vs[j] := List.getElem?_eq_getElem (by omega)
    obtain ⟨a, b, c⟩ := vcs_at vs j _ hv
    refine ⟨g, cap, rfl, hS g rfl, ⟨.int .i64 vs[j].k, .int .i64 vs[j].n, .string vs[j].s, ?_, ?_, ?_⟩, ⟨ho.frozenAt _, ho.frozenAt _, ho.frozenAt _⟩, fun x hx => ⟨?_, ?_, hS⟩⟩
    · rw [ho.cellAt _ (by omega)]; exact a
    · rw [ho.cellAt _ (by omega)]; exact b
    · rw [ho.cellAt _ (by omega)]; exact c
    · have h1 := (ho.stored (j * 3) (.int .i64 x.k)).1
      have h2 := (h1.stored (j * 3 + 1) (.int .i64 x.n)).1
      have h3 := (h2.stored (j * 3 + 2) (.string x.s)).1
      rw [vcs_set vs j x (by omega)] at h3
      exact h3
    · intro y hy
      rcases List.mem_or_eq_of_mem_set hy with hy | hy
      · exact hl y hy
      · rw [hy]; exact hx
theorem row_fr {w w' : World} {S T : Nat → Prop} {A : Option Addr} {n c : Nat} {vs : List V} (h : OwV w S (.slice A n c) n vs) (hf : Fr w w' T) (hd : ∀ b, S b → ¬ T b) (hn : n ≤ 9223372036854775806) : RV w' A n vs := by
  obtain ⟨A', c', e, _, _, _, hr⟩ := (h.keep hf hd).reads hn
  injection e with e1 e2 e3
  subst e1
  exact hr
theorem two_rv (w : World) (b : Nat) (hb : b = w.heap.size) (x : V) (hx : VOk x) : RV (w.alloc (.cells #[.int .i64 x.k, .int .i64 x.n, .string x.s, .int .i64 x.k, .int .i64 x.n, .string x.s] 34)) (some ⟨b, 0, none⟩) 2 [x, x] := by
  subst hb
  exact RV.of_blk (vs := [x, x]) (Blk.new w 34 _) (by simpa using hx) (by simp)
theorem ok8 : VOk ⟨8, 0, ⟨#[]⟩⟩ := ⟨by simp [N64], Nat.zero_le _⟩
theorem ok9 : VOk ⟨9, 0, ⟨#[]⟩⟩ := ⟨by simp [N64], Nat.zero_le _⟩

theorem OwV.up5 {w w1 : World} {S : Nat → Prop} {v : Value} {n : Nat} {vs : List V} (h : OwV w S v n vs) (hb : Below w.heap.size w w1) : OwV w1 S v n vs :=
  h.keep (Fr.of_below hb (fun _ => False)) (fun _ _ h => h.elim)
set_option maxRecDepth 100000 in
set_option maxHeartbeats 8000000 in
theorem walked (s : ByteArray) (w : World) (hs : s.size ≤ 9223372036854775807) :
    Calls Try.prog 4 #[.string s] w fun e w' => e = .returned (.bool true) ∧ Below w.heap.size w w' := by
  have HR := Lib.hid (rdecode_any s hs w)
  have HD := Lib.hid (fun W => decode_any s hs W)
  have HW := Lib.hid (fun W => awake_any W)
  have hlen := decR_len s
  clear hs
  go_enter Try.func4, Try.ntmps4
  go_wp2_with fail
  refine HR.out.mono ?_
  rintro e w1 hd1
  obtain ⟨v0, rfl, ho0⟩ := dec_uni hd1
  clear hd1 HR
  go_wp2_with fail
  refine (HD.out _).mono ?_
  rintro e w2 hd2
  obtain ⟨v1, rfl, ho1⟩ := dec_uni hd2
  clear hd2
  go_wp2_with fail
  refine (HD.out _).mono ?_
  rintro e w3 hd3
  obtain ⟨v2, rfl, ho2⟩ := dec_uni hd3
  clear hd3 HD
  generalize decR s = r at *
  generalize decX s = x at *
  obtain ⟨n, hn⟩ : ∃ n, r.length = n := ⟨_, rfl⟩
  have o0 := ho0.1
  have o1 := ho1.1
  have o2 := ho2.1
  rw [hn] at o0 o1 o2 hlen
  obtain ⟨A0, c0, rfl, _, _, _, r0⟩ := o0.reads (by omega)
  obtain ⟨A1, c1, rfl, _, _, _, r1⟩ := o1.reads (by omega)
  obtain ⟨A2, c2, rfl, _, _, _, r2⟩ := o2.reads (by omega)
  have s1 : w.heap.size ≤ w1.heap.size := ho0.2.size
  have s2 : w1.heap.size ≤ w2.heap.size := ho1.2.size
  have s3 : w2.heap.size ≤ w3.heap.size := ho2.2.size
  have B0 := Lib.hid ho0.2
  have B1 := Lib.hid (below_trans ho1.2 ho2.2)
  have B2 := Lib.hid ho2.2
  have HQ0 := Lib.hid r0
  have HO1 := Lib.hid ((o1.mono (T := fun b => w1.heap.size ≤ b ∧ b < w2.heap.size) fun b h1 h2 => ⟨h2, h1⟩).below ho2.2 (fun b hb => hb.2))
  have HO2 := Lib.hid o2
  have HS1 := Lib.hid (same_any A1 n c1 r A0 n c0 r w3 (r1.below ho2.2) (r0.below B1.out))
  have HS2 := Lib.hid (fun (W : World) (h : Below w3.heap.size w3 W) => same_any A2 n c2 r A0 n c0 r W (r2.below h) (r0.below (below_trans B1.out h)))
  rw [(eqR_iff r r).2 rfl] at HS1
  simp only [(eqR_iff r r).2 rfl] at HS2
  clear ho0 ho1 ho2 o0 o1 o2 r0 r1 r2
  go_wp2_with fail
  refine HS1.out.mono ?_
  rintro e w4 ⟨rfl, hb4⟩
  have B4 := Lib.hid hb4
  clear hb4 HS1
  go_wp2_with fail
  refine (HS2.out _ B4.out).mono ?_
  rintro e w5 ⟨rfl, hb5⟩
  have B5 := Lib.hid (below_trans B4.out hb5)
  clear hb5 B4 HS2
  have s5 : w3.heap.size ≤ w5.heap.size := B5.out.size
  have HL := Lib.hid (B1.out.trans (B5.out.mono (by omega)))
  have HO1 := Lib.hid (HO1.out.below B5.out (fun b hb => by omega))
  have HO2 := Lib.hid (OwV.up5 HO2.out B5.out)
  go_wp2
  go_loopw [9] (fun i wr => ∃ (k : Nat) (xs : List V), k ≤ n ∧ i = .int .i64 (k : Int) ∧ OwV wr (fun b => w1.heap.size ≤ b ∧ b < w2.heap.size) (.slice A1 n c1) n xs ∧ Below w1.heap.size w1 wr ∧ Fr w5 wr (fun b => b < w2.heap.size)) (fun i _ => n - (intOf i).toNat)
  case atStart => exact ⟨0, r, by omega, rfl, HO1.out, below_trans B1.out B5.out, Fr.refl _ _⟩
  case round =>
    obtain ⟨k, xs, hk, rfl, ho, hbl, hfr⟩ := hrel
    by_cases hlt : k < n
    · obtain ⟨g, cap, e, hS, ⟨q0, q1, q2, d0, d1, d2⟩, ⟨f0, f1, f2⟩, hset⟩ := slot_at ho hlt
      injection e with e1 e2 e3
      subst e1 e3
      have HSET := Lib.hid (hset ⟨9, 0, ⟨#[]⟩⟩ ok9)
      have HBL := Lib.hid (((hbl.setCell (p := ⟨g, k * 3, none⟩) hS.1 (.int .i64 9)).setCell (p := ⟨g, k * 3 + 1, none⟩) hS.1 (.int .i64 0)).setCell (p := ⟨g, k * 3 + 2, none⟩) hS.1 (.string ⟨#[]⟩))
      have HFR := Lib.hid (((hfr.setCell (p := ⟨g, k * 3, none⟩) (Or.inl hS.2) (.int .i64 9)).setCell (p := ⟨g, k * 3 + 1, none⟩) (Or.inl hS.2) (.int .i64 0)).setCell (p := ⟨g, k * 3 + 2, none⟩) (Or.inl hS.2) (.string ⟨#[]⟩))
      clear hset ho hbl hfr hS
      go_wp2
      go_roundw
      case rel => exact ⟨k + 1, _, by omega, by go_num, HSET.out, HBL.out, HFR.out⟩
      case measure => simp [intOf]; omega
    · obtain rfl : k = n := by omega
      have hswr : w5.heap.size ≤ wr.heap.size := hfr.size
      have HO := Lib.hid (ho.alloc (.cells #[.int .i64 8, .int .i64 0, .string ⟨#[]⟩, .int .i64 8, .int .i64 0, .string ⟨#[]⟩] 34))
      have HBL := Lib.hid (hbl.alloc (by have := hbl.size; omega) (.cells #[.int .i64 8, .int .i64 0, .string ⟨#[]⟩, .int .i64 8, .int .i64 0, .string ⟨#[]⟩] 34))
      have HFR := Lib.hid (hfr.alloc (.cells #[.int .i64 8, .int .i64 0, .string ⟨#[]⟩, .int .i64 8, .int .i64 0, .string ⟨#[]⟩] 34))
      clear ho hbl hfr HO1
      go_wp2_with (at_builtin; go_must (refine wpList_appV rfl (.tmp 56) (.tmp 59) rfl _ _ xs rfl HO.out _ 2 2 [⟨8, 0, ⟨#[]⟩⟩, ⟨8, 0, ⟨#[]⟩⟩] rfl (by exact two_rv _ _ (by simp) ⟨8, 0, ⟨#[]⟩⟩ ok8) (by omega) ?_); intro v7 w7 hown hgrow; obtain ⟨A7, c7, rfl, _, _, _, _⟩ := hown.reads (by omega); have HB7 := Lib.hid (HBL.out.grown hgrow (by have := HBL.out.size; simp at this ⊢; omega) (fun q hq => (HO.out.2.2 q hq).1)); have HF7 := Lib.hid (Fr.grown HFR.out hgrow (fun q hq => Or.inl (HO.out.2.2 q hq).2)); clear hown hgrow)
      have HSX := Lib.hid (same_any A2 k c2 r A0 k c0 r w7 (row_fr HO2.out HF7.out (fun b h1 h2 => by omega) (by omega)) (HQ0.out.below HB7.out))
      rw [(eqR_iff r r).2 rfl] at HSX
      have HB8 := Lib.hid (below_trans B0.out HB7.out)
      refine HSX.out.mono ?_
      rintro e w8 ⟨rfl, hb⟩
      have HB9 := Lib.hid (below_trans HB8.out hb)
      clear hb HSX HB7 HB8 HF7
      go_wp2_with fail
      refine (HW.out _).mono ?_
      rintro e w9 ⟨rfl, hb⟩
      have HB10 := Lib.hid (below_trans HB9.out hb)
      clear hb
      go_wp2
      go_ret
      exact ⟨rfl, HB10.out⟩
end Go.Proofs.Ytjhlfgomoookjaa.keysDecode
