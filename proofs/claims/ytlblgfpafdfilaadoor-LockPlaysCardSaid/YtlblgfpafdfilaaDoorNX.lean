/-
STAGE 12: the document's Waits and Victim.
-/
import Derived.Test.YtlblgfpafdfilaaDoorNT
import Derived.Test.YtlblgfpafdfilaaDoorNW
import Derived.Test.YtlblgfpafdfilaaDoorNP
namespace Go.Proofs.YtlblgfpafdfilaaDoor
open Go.RowKit Go.Sort

theorem rwTo_len (ls : List LK) : ∀ n, (rwTo ls n).length ≤ n * ls.length
  | 0 => by simp [rwTo]
  | n + 1 => by
    have ih := rwTo_len ls n
    unfold rwTo
    rw [Nat.add_mul, Nat.one_mul]
    split
    · omega
    · have := pairs_len (ls.getD n okz).t (forM ls n) (rwTo ls n)
      have := forTo_len ls (ls.getD n okz) n ls.length
      unfold forM at *
      omega
theorem pairsM_take {t : Nat} {xs : List Nat} {acc : List (Nat × Nat)} {j x : Nat} (h : xs[j]? = some x) : pairsM t (xs.take (j + 1)) acc = withM (pairsM t (xs.take j) acc) (t, x) := by
  obtain ⟨hk, e⟩ := List.getElem?_eq_some_iff.1 h
  unfold pairsM
  rw [List.take_succ_eq_append_getElem hk, List.foldl_append, e]
  rfl
theorem drew_or {w : World} {Q : Nat → Prop} {R : Nat → Prop} (h : ∀ b, Q b → R b ∨ w.drew.heap.size ≤ b) : ∀ b, Q b → R b ∨ w.heap.size ≤ b := h
/-- the pairs so far, within one place -/
theorem NR.with_ {w wr w2 : World} {A : Option Addr} {n c : Nat} {v' : Value} {acc acc' : List (Nat × Nat)} (h : NR 47 2 pf w wr (.slice A n c) acc) (hb : RowKit.Below wr.heap.size wr w2) (ho : OwR w2 47 2 pf v' acc') (hn : ∀ b, v'.ownBlock = some b → (Value.slice A n c).ownBlock = some b ∨ wr.heap.size ≤ b) : NR 47 2 pf w w2 v' acc' :=
  ⟨ho, fun b hb' => (hn b hb').elim (h.new b) fun e => Nat.le_trans h.bel.size e, h.bel.trans (hb.mono h.bel.size)⟩
set_option maxRecDepth 100000 in
set_option maxHeartbeats 8000000 in
theorem rwaits_any (g : Nat) (A : Option Addr) (c : Nat) (ls : List LK) (w : World) (hT : RT w g A c ls) (hI : Inv ls) :
    Calls Tryd.prog 16 #[.pointer (some ⟨g, 0, none⟩)] w fun e w' => ∃ v, e = .returned v ∧ NR 47 2 pf w w' v (rwaitsM ls) := by
  have HT := Lib.hid hT
  have HI := Lib.hid hI
  have HF := Lib.hid hT.few
  have HLEN := Lib.hid (fun n => rwTo_len ls n)
  obtain ⟨n, hn⟩ : ∃ n, ls.length = n := ⟨_, rfl⟩
  have HN := Lib.hid hn
  clear hT hI hn
  go_enter Tryd.func16, Tryd.ntmps16
  go_upto_region 3 with fail
  go_loopw [3, 4] (fun v i wr => ∃ k : Nat, k ≤ n ∧ i = .int .i64 (k : Int) ∧ NR 47 2 pf w wr v (rwTo ls k)) (fun _ i _ => n - (intOf i).toNat)
  case atStart => exact ⟨0, by omega, rfl, OwR.nil_ _ _ _ _, fun b hb => by simp [Value.ownBlock] at hb, Below.refl _ _⟩
  case round =>
    obtain ⟨k, hk, rfl, hr⟩ := hrel
    have HR := Lib.hid hr
    have c0 := (HT.out.up hr.bel).blk.cell 0
    simp only [List.getElem?_toArray, List.getElem?_cons_zero] at c0
    rw [HN.out] at c0
    by_cases hlt : k < n
    · have hl : ls[k]? = some (ls[k]'(by have := HN.out; omega)) := List.getElem?_eq_getElem _
      generalize ls[k]'(by have := HN.out; omega) = l at hl
      obtain ⟨b, rfl, hcs⟩ := HT.out.row k l hl
      have HCS := Lib.hid hcs
      obtain ⟨z0, z1, z2, z3, z4, z5, z6⟩ := hcs.up hr.bel
      have hin : ((k : Int) < (n : Int)) := by omega
      have e1 : IntKind.i64.wrap ((k : Int) + 1) = ((k + 1 : Nat) : Int) := by rw [IntWalk.i64_in _ (by have := HF.out; have := HN.out; omega)]; omega
      have HS := Lib.hid (show rwTo ls (k + 1) = if l.h = true then rwTo ls k else pairsM l.t (forM ls k) (rwTo ls k) by
        show (if (ls.getD k okz).h = true then rwTo ls k else pairsM (ls.getD k okz).t (forM ls k) (rwTo ls k)) = _
        rw [getD_of hl])
      have HFO := Lib.hid (for_any g (some ⟨b, 0, none⟩) c ls wr (HT.out.up hr.bel) HI.out.good k (by have := HN.out; omega))
      have HFL := Lib.hid (show (forM ls k).length ≤ 16384 from Nat.le_trans (forTo_len ls _ k ls.length) HF.out)
      have HAL := Lib.hid (show (rwTo ls k).length ≤ 268435456 from Nat.le_trans (HLEN.out k) (Nat.le_trans (Nat.mul_le_mul (show k ≤ 16384 by have := HF.out; have := HN.out; omega) HF.out) (by decide)))
      generalize rwTo ls k = acc at HS HR HAL
      generalize forM ls k = xs at HS HFO HFL
      clear hl hcs hr
      cases hh : l.h with
      | true =>
        rw [hh] at z6
        rw [hh, if_pos rfl] at HS
        clear hh
        go_wp2_with fail
        go_roundw
        case rel => exact ⟨k + 1, by omega, by go_num, by rw [HS.out]; exact HR.out⟩
        case measure => simp [intOf]; omega
      | false =>
        rw [hh] at z6
        rw [hh, if_neg (by decide)] at HS
        clear hh
        go_wp2_with (go_at_call 34; with_reducible refine HFO.out.mono ?_; rintro e w7 ⟨vf, rfl, hun⟩; obtain ⟨Af, cf, hvf, _⟩ := hun.own.form; obtain ⟨mf, hmf⟩ : ∃ mf, xs.length = mf := ⟨_, rfl⟩; rw [hmf] at hvf; subst hvf; have HUN := Lib.hid hun; have HMF := Lib.hid hmf; clear hun hmf)
        have HUR := Lib.hid HUN.out.own.ur
        have HR7 := Lib.hid (HR.out.up HUN.out.bel)
        clear c0 z0 z1 z2 z3 z4 z5 z6
        go_loopw [3, 6] (fun v i wi => ∃ j : Nat, j ≤ mf ∧ i = .int .i64 (j : Int) ∧ NR 47 2 pf w wi v (pairsM l.t (xs.take j) acc) ∧ Below w7.heap.size w7 wi) (fun _ i _ => mf - (intOf i).toNat)
        case atStart => exact ⟨0, by omega, rfl, HR7.out, Below.refl _ _⟩
        case round =>
          obtain ⟨j, hj, rfl, hr, hb⟩ := hrel
          have HRJ := Lib.hid hr
          have HBJ := Lib.hid hb
          by_cases hlt2 : j < mf
          · have hx : xs[j]? = some (xs[j]'(by have := HMF.out; omega)) := List.getElem?_eq_getElem _
            generalize xs[j]'(by have := HMF.out; omega) = x at hx
            obtain ⟨bf, rfl, hxc⟩ := (HUR.out.up hb) j x hx
            have c0 := (HT.out.up hr.bel).blk.cell 0
            simp only [List.getElem?_toArray, List.getElem?_cons_zero] at c0
            rw [HN.out] at c0
            obtain ⟨z0, z1, z2, z3, z4, z5, z6⟩ := HCS.out.up hr.bel
            have hin2 : ((j : Int) < (mf : Int)) := by omega
            have e2 : IntKind.i64.wrap ((j : Int) + 1) = ((j + 1 : Nat) : Int) := by rw [IntWalk.i64_in _ (by have := HMF.out; have := HFL.out; omega)]; omega
            have HS2 := Lib.hid (pairsM_take (t := l.t) (acc := acc) hx)
            have hpl := pairs_len l.t (xs.take j) acc
            rw [List.length_take] at hpl
            have HPL := Lib.hid (show (pairsM l.t (xs.take j) acc).length ≤ 1000000000 by have := HAL.out; have := HFL.out; omega)
            generalize pairsM l.t (xs.take j) acc = acc2 at HS2 HPL HRJ
            obtain ⟨Ao, co, hvo, _⟩ := HRJ.out.own.form
            obtain ⟨no, hno⟩ : ∃ no, acc2.length = no := ⟨_, rfl⟩
            rw [hno] at hvo
            subst hvo
            have HWI := Lib.hid (fun W' (hW : Below wr.heap.size wr W') => with_any W' Ao no co acc2 hno (HRJ.out.own.up hW) (by rw [← hno]; exact HPL.out) l.t x)
            clear hx hr hb hpl hno
            have hin4 : ((k : Int) < (n : Int)) := by omega
            go_upto_region 10 with fail
            clear z1 z2 z3 z4 z5 z6
            go_region_held3 (fun w' => w'.cell? ⟨g, 0, none⟩ = some (.slice (some ⟨b, 0, none⟩) n c) ∧ w'.cell? ⟨b, k * 7, none⟩ = some (.int .u32 (l.t : Int)) ∧ w'.cell? ⟨bf, j, none⟩ = some (.int .u32 (x : Int))) (first | exact ⟨by assumption, by assumption, by assumption⟩ | (refine ⟨?_, ?_, ?_⟩ <;> go_simp)) (first | (go_at_call 35; with_reducible refine (HWI.out _ (Below.refl _ _).drew).mono ?_; rintro e w8 ⟨v8, rfl, ho8, hb8, hn8⟩; have hb9 := below_drew hb8; have HB9 := Lib.hid hb9; have H8 := Lib.hid (HRJ.out.with_ hb9 ho8 (drew_or hn8)); have q0 := (hb9.cell (block_lt_of_cell c0)).trans c0; have q1 := (hb9.cell (block_lt_of_cell z0)).trans z0; have q2 := (hb9.cell (block_lt_of_cell hxc)).trans hxc; clear ho8 hb8 hn8 hb9))
            clear c0 z0 hxc q0 q1 q2
            go_wp2_with fail
            go_roundw
            case rel => exact ⟨j + 1, by omega, by go_num, by rw [HS2.out]; exact H8.out, HBJ.out.trans (HB9.out.mono HBJ.out.size)⟩
            case measure => simp [intOf]; omega
          · obtain rfl : j = mf := by omega
            have hin2 : ¬ ((j : Int) < (j : Int)) := by omega
            clear hb hr
            go_wp2_with fail
            go_roundw
            case rel => exact ⟨k + 1, by omega, by go_num, by rw [HS.out]; have := HRJ.out; rwa [← HMF.out, List.take_length] at this⟩
            case measure => simp [intOf]; omega
    · obtain rfl : k = n := by omega
      have hin : ¬ ((k : Int) < (k : Int)) := by omega
      clear hr
      go_wp2_with fail
      go_ret
      exact ⟨_, rfl, by unfold rwaitsM; rw [HN.out]; exact HR.out⟩
/-- the greatest that was told so far -/
def mostTo (P : List (Nat × Nat)) (R : Nat → Bool) : Nat → Nat
  | 0 => 0
  | i + 1 => if (decide (mostTo P R i < (P.getD i (0, 0)).1) && R (P.getD i (0, 0)).1) = true then (P.getD i (0, 0)).1 else mostTo P R i
theorem mostTo_in (P : List (Nat × Nat)) (R : Nat → Bool) : ∀ n, n ≤ P.length → mostTo P R n = 0 ∨ ∃ b, (mostTo P R n, b) ∈ P ∧ R (mostTo P R n) = true
  | 0, _ => Or.inl rfl
  | i + 1, hn => by
    unfold mostTo
    split
    · rename_i hc
      rw [Bool.and_eq_true] at hc
      have hp : P[i]? = some P[i] := List.getElem?_eq_getElem (by omega)
      rw [getD_of2 hp] at hc ⊢
      exact Or.inr ⟨P[i].2, List.mem_of_getElem? hp, hc.2⟩
    · exact mostTo_in P R i (by omega)
theorem mostTo_ge (P : List (Nat × Nat)) (R : Nat → Bool) : ∀ n i p, i < n → P[i]? = some p → R p.1 = true → p.1 ≤ mostTo P R n
  | 0, i, _, h, _, _ => absurd h (Nat.not_lt_zero _)
  | n + 1, i, p, h, hp, hr => by
    unfold mostTo
    by_cases e : i = n
    · subst e
      rw [getD_of2 hp, hr, Bool.and_true]
      split
      · exact Nat.le_refl _
      · rename_i hc
        have : ¬ mostTo P R i < p.1 := by simpa using hc
        omega
    · have ih := mostTo_ge P R n i p (by omega) hp hr
      split
      · rename_i hc
        rw [Bool.and_eq_true, decide_eq_true_eq] at hc
        omega
      · exact ih
end Go.Proofs.YtlblgfpafdfilaaDoor
