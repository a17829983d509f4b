/-
  THE DOCUMENT'S DISK: THE WALKS OF Seen, Read.
-/
import Derived.Test.YtjblcligkgjbjaaWalkS
namespace Go.Proofs.Ytjblcligkgjbjaa
open Go.RowKit Go.Sort Go.Maps

set_option maxRecDepth 100000 in
theorem cels_at : ∀ (c : List (Nat × List Nat)) (ss : List Value) (i a : Nat) (l : List Nat) (x : Value), c[i]? = some (a, l) → ss[i]? = some x → (cels c ss)[i * 2]? = some (.int .i64 (a : Int)) ∧ (cels c ss)[i * 2 + 1]? = some x
  | [], _, _, _, _, _, h, _ => by simp at h
  | _ :: _, [], _, _, _, _, _, h => by simp at h
  | (b, m) :: c, y :: ss, 0, a, l, x, h1, h2 => by
    simp at h1 h2
    obtain ⟨rfl, rfl⟩ := h1
    subst h2
    simp [cels]
  | (b, m) :: c, y :: ss, i + 1, a, l, x, h1, h2 => by
    have := cels_at c ss i a l x (by simpa using h1) (by simpa using h2)
    have e : cels ((b, m) :: c) (y :: ss) = .int .i64 (b : Int) :: y :: cels c ss := by simp [cels]
    rw [e, show (i + 1) * 2 = i * 2 + 1 + 1 by omega]
    simpa using this
section
variable {w w' : World} {O T S U : Nat → Prop} {v : Value} {c : List (Nat × List Nat)}
set_option maxRecDepth 100000 in
theorem CW.look (h : CW w O T v c) : ∃ A cap, v = .slice A c.length cap ∧ c.length ≤ maxLen ∧ ∀ (i a : Nat) (l : List Nat), c[i]? = some (a, l) → ∃ g x, A = some ⟨g, 0, none⟩ ∧ w.cell? ⟨g, i * 2, none⟩ = some (.int .i64 (a : Int)) ∧ w.cell? ⟨g, i * 2 + 1, none⟩ = some x ∧ SL w T x l := by
  obtain ⟨ss, h0, ⟨h1, h2⟩, h4, h5⟩ := h
  rcases h2 with ⟨rfl, h0⟩ | ⟨g, cap, cur, rfl, _, hh, hc, hm, hs, ht⟩
  · exact ⟨none, 0, by rw [h0], by rw [h0]; exact Nat.zero_le _, fun i a l hi => by rw [List.eq_nil_of_length_eq_zero h0] at hi; simp at hi⟩
  · refine ⟨_, cap, rfl, Nat.le_trans hc hm, fun i a l hi => ?_⟩
    obtain ⟨x, e, hsl⟩ := h5 i a l hi
    obtain ⟨e1, e2⟩ := cels_at c ss i a l x hi e
    have hil : i < c.length := (List.getElem?_eq_some_iff.1 hi).1
    refine ⟨g, x, rfl, ?_, ?_, hsl⟩
    · rw [cell_of_row w g _ cur 76 (0, 0) hh]
      rw [← ht, List.getElem?_take_of_lt (by omega)] at e1
      simpa using e1
    · rw [cell_of_row w g _ cur 76 (0, 0) hh]
      rw [← ht, List.getElem?_take_of_lt (by omega)] at e2
      simpa using e2
end
set_option maxHeartbeats 1000000 in
set_option maxRecDepth 100000 in
/-- a sector as it was written last -/
theorem rseen_any (w : World) (S T : Nat → Prop) (g : Nat) (d : DS) (h : RAt w S T g d) (a : Nat) (ha : a < d.kept.length) (hlen : d.cache.length < 1000000) :
    Calls Try.prog 38 #[ptr (some g), .int .i64 (a : Int)] w fun e w' => ∃ v, e = .returned v ∧ New w w' v (d.seen a) ∧ Fr w w' No := by
  obtain ⟨vk, vc, h⟩ := h
  have hc0 := h.b.cell 0
  have hc1 := h.b.cell 1
  simp only [rcs, List.getElem?_toArray, List.getElem?_cons_zero, List.getElem?_cons_succ] at hc0 hc1
  obtain ⟨Ak, ck, hvk, hkl⟩ := h.k.look
  obtain ⟨Ac, cc, hvc, _, hcl⟩ := h.c.look
  subst hvk hvc
  have hok := Lib.hid h.ok
  obtain ⟨lk, hlk⟩ : ∃ lk, d.kept[a]? = some lk := ⟨_, List.getElem?_eq_getElem ha⟩
  obtain ⟨G, x0, rfl, hx0, hs0⟩ := hkl a lk hlk
  have hlk2 : d.kept.getD a [] = lk := by simp [List.getD, hlk]
  have HS0 := Lib.hid hs0
  have HCL := Lib.hid hcl
  have HL := Lib.hid hlk2
  have hai : ((a : Int) < (d.kept.length : Int)) := by omega
  simp only [ptr, Option.map]
  clear h hkl hcl hs0 hlk hlk2
  go_enter Try.func38, Try.ntmps38
  go_wp2_with fail
  go_loopw [5, 6] (fun b u wr => ∃ i : Nat, u = .int .i64 (i : Int) ∧ i ≤ d.cache.length ∧ w = wr ∧ SL wr T b (seenN d.cache a (d.kept.getD a []) i)) (fun _ u _ => d.cache.length - (intOf u).toNat)
  case atStart => exact ⟨0, rfl, Nat.zero_le _, rfl, by rw [HL.out]; exact HS0.out⟩
  case round =>
    obtain ⟨i, rfl, hi, rfl, hb⟩ := hrel
    have HB := Lib.hid hb
    clear hb
    by_cases hlt : i < d.cache.length
    · have h1 : ((i : Int) < (d.cache.length : Int)) := by omega
      have hWn : IntKind.i64.wrap ((i : Int) + 1) = ((i + 1 : Nat) : Int) := by rw [IntWalk.i64_in _ (by omega)]; omega
      obtain ⟨q, hq⟩ : ∃ q, d.cache[i]? = some q := ⟨_, List.getElem?_eq_getElem hlt⟩
      obtain ⟨qa, ql⟩ := q
      obtain ⟨G2, x, rfl, e1, e2, hsx⟩ := HCL.out i qa ql hq
      have hgd : d.cache.getD i (0, []) = (qa, ql) := by simp [List.getD, hq]
      have HX := Lib.hid hsx
      have HGD := Lib.hid hgd
      clear hsx hgd hq
      by_cases hqa : qa = a
      · have hqd : ((qa : Int) == (a : Int)) = true := by rw [beq_iff_eq]; omega
        have HQA := Lib.hid hqa
        clear hqa
        go_wp2_with fail
        go_roundw
        case rel => exact ⟨i + 1, by go_num, by omega, by first | rfl | trivial, by rw [seenN, HGD.out, if_pos HQA.out]; exact HX.out⟩
        case measure => simp [intOf]; omega
      · have hqd : ((qa : Int) == (a : Int)) = false := beq_false_of_ne (by omega)
        have HQA := Lib.hid hqa
        clear hqa
        go_wp2_with fail
        go_roundw
        case rel => exact ⟨i + 1, by go_num, by omega, by first | rfl | trivial, by rw [seenN, HGD.out, if_neg HQA.out]; exact HB.out⟩
        case measure => simp [intOf]; omega
    · have h1d : decide ((i : Int) < (d.cache.length : Int)) = false := decide_eq_false (by omega)
      have h1d2 : decide (i < d.cache.length) = false := decide_eq_false hlt
      have hsec := seen_sec hok.out ha
      have hfin := HB.out
      rw [show i = d.cache.length by omega] at hfin
      change SL w T _ (d.seen a) at hfin
      obtain ⟨A, c, hbe, hr⟩ := hfin
      subst hbe
      rw [hsec.1] at hr
      have HC := Lib.hid (copy_any w _ A 512 c (d.seen a) hr (by omega))
      rw [hsec.1]
      clear hsec hr HB
      go_wp2_with fail
      refine HC.out.mono ?_
      rintro e w' ⟨v, rfl, ho, hf⟩
      have HO := Lib.hid ho
      have HF := Lib.hid hf
      clear ho hf
      go_wp2
      go_ret
      exact ⟨v, rfl, HO.out, HF.out⟩

set_option maxRecDepth 100000 in
theorem rread_out (w : World) (S T : Nat → Prop) (g : Nat) (d : DS) (h : RAt w S T g d) (at_ : Int) (ha : at_ < 0 ∨ (d.kept.length : Int) ≤ at_) :
    Calls Try.prog 29 #[ptr (some g), .int .i64 at_] w fun e w' => e = .returned (.tuple #[.slice none 0 0, .int .i64 2]) ∧ w = w' := by
  obtain ⟨vk, vc, h⟩ := h
  have hc0 := h.b.cell 0
  simp only [rcs, List.getElem?_toArray, List.getElem?_cons_zero] at hc0
  obtain ⟨Ak, ck, hvk, _⟩ := h.k.look
  subst hvk
  clear h
  simp only [ptr, Option.map]
  by_cases h0 : at_ < 0
  · have hd : decide (at_ < 0) = true := decide_eq_true h0
    go_enter Try.func29, Try.ntmps29
    go_wp2_with fail
    go_ret2
    exact ⟨rfl, rfl⟩
  · have hd : decide (at_ < 0) = false := decide_eq_false h0
    have h1 : at_ ≥ (d.kept.length : Int) := by omega
    have hd2 : decide (at_ ≥ (d.kept.length : Int)) = true := decide_eq_true h1
    have hd3 : decide ((d.kept.length : Int) ≤ at_) = true := decide_eq_true h1
    go_enter Try.func29, Try.ntmps29
    go_wp2_with fail
    go_ret2
    exact ⟨rfl, rfl⟩
set_option maxRecDepth 100000 in
theorem rread_dark (w : World) (S T : Nat → Prop) (g : Nat) (d : DS) (h : RAt w S T g d) (a : Nat) (ha : a < d.kept.length) (hm : d.may = false) :
    Calls Try.prog 29 #[ptr (some g), .int .i64 (a : Int)] w fun e w' => e = .returned (.tuple #[.slice none 0 0, .int .i64 8]) ∧ RAt w' S T g d.next ∧ Fr w w' S := by
  have HO := rcomes_any w S T g d h
  rw [hm] at HO
  obtain ⟨vk, vc, h⟩ := h
  have hc0 := h.b.cell 0
  simp only [rcs, List.getElem?_toArray, List.getElem?_cons_zero] at hc0
  obtain ⟨Ak, ck, hvk, _⟩ := h.k.look
  subst hvk
  have HO := Lib.hid HO
  clear h
  have hd : decide ((a : Int) < 0) = false := decide_eq_false (by omega)
  have hd2 : decide ((a : Int) ≥ (d.kept.length : Int)) = false := decide_eq_false (by omega)
  have hd4 : decide (d.kept.length ≤ a) = false := decide_eq_false (by omega)
  simp only [ptr, Option.map] at HO ⊢
  go_enter Try.func29, Try.ntmps29
  go_wp2_with fail
  with_reducible refine HO.out.mono ?_
  rintro e w1 ⟨rfl, hD, hF⟩
  have HD := Lib.hid hD
  have HF := Lib.hid hF
  clear hD hF HO
  go_wp2_with fail
  go_ret2
  exact ⟨rfl, HD.out, HF.out⟩
set_option maxRecDepth 100000 in
theorem rread_some (w : World) (S T : Nat → Prop) (g : Nat) (d : DS) (h : RAt w S T g d) (a : Nat) (ha : a < d.kept.length) (hm : d.may = true) (hlen : d.cache.length < 1000000) :
    Calls Try.prog 29 #[ptr (some g), .int .i64 (a : Int)] w fun e w' => ∃ v, e = .returned (.tuple #[v, .int .i64 0]) ∧ Ow w' (fun b => w.heap.size ≤ b) v 512 (d.seen a) ∧ RAt w' S T g d.next.read ∧ Fr w w' S := by
  have HO := rcomes_any w S T g d h
  rw [hm] at HO
  obtain ⟨vk, vc, h⟩ := h
  have hc0 := h.b.cell 0
  simp only [rcs, List.getElem?_toArray, List.getElem?_cons_zero] at hc0
  obtain ⟨Ak, ck, hvk, _⟩ := h.k.look
  subst hvk
  have HO := Lib.hid HO
  have hsz := h.b.lt
  clear h
  have hd : decide ((a : Int) < 0) = false := decide_eq_false (by omega)
  have hd2 : decide ((a : Int) ≥ (d.kept.length : Int)) = false := decide_eq_false (by omega)
  have hd4 : decide (d.kept.length ≤ a) = false := decide_eq_false (by omega)
  rw [← next_seen]
  have HA : Hid (a < d.next.kept.length) := by rw [next_kept]; exact ha
  have HLn : Hid (d.next.cache.length < 1000000) := by rw [next_cache]; exact hlen
  generalize d.next = x at HO HA HLn ⊢
  simp only [ptr, Option.map] at HO ⊢
  go_enter Try.func29, Try.ntmps29
  go_wp2_with fail
  with_reducible refine HO.out.mono ?_
  rintro e w1 ⟨rfl, hD, hF⟩
  clear HO hc0 ha hlen hm
  obtain ⟨vk, vc, hD⟩ := hD
  have hc4 := hD.b.cell 4
  have hf4 := hD.b.frozen 4
  simp only [rcs, List.getElem?_toArray, List.getElem?_cons_zero, List.getElem?_cons_succ] at hc4
  have hr2 : IntKind.i64.wrap (x.rd + 1) = up x.rd := rfl
  obtain ⟨r', hr'⟩ : ∃ r', r' = up x.rd := ⟨_, rfl⟩
  rw [← hr'] at hr2
  obtain ⟨hE, hG⟩ := hD.field (d' := x.read) 4 (.int .i64 r') rfl rfl hD.ok.read (by simp [rcs, DS.read, hr'])
  obtain ⟨W, hW⟩ : ∃ W, W = w1.setCell ⟨g, 4, none⟩ (.int .i64 r') := ⟨_, rfl⟩
  rw [← hW] at hE hG
  have HS := Lib.hid (rseen_any W S T g x.read ⟨_, _, hE⟩ a HA.out HLn.out)
  have HE := Lib.hid hE
  have HFw := Lib.hid (hF.same hG)
  have HSec := Lib.hid (seen_sec hE.ok (a := a) HA.out)
  clear hD hE hF hG hr'
  replace hW := hW.symm
  simp only [ptr, Option.map] at HS
  go_wp2_with fail
  with_reducible refine HS.out.mono ?_
  rintro e w2 ⟨v, rfl, hn, hf⟩
  have HN : Hid (Ow w2 (fun b => w.heap.size ≤ b) v 512 (x.seen a)) := by
    have h1 : Ow w2 (fun b => W.heap.size ≤ b) v (x.read.seen a).length (x.read.seen a) := hn
    rw [HSec.out.1] at h1
    exact ⟨h1.1, h1.2.1, fun k hk => Nat.le_trans HFw.out.size (h1.2.2 k hk)⟩
  have HK : Hid (RAt w2 S T g x.read) := RAt.keep ⟨_, _, HE.out⟩ hf (fun _ _ hn => hn) fun _ _ hn => hn
  have HFz := Lib.hid (HFw.out.same (hf.mono fun _ _ hn => hn.elim))
  clear hn hf HS
  go_wp2_with fail
  go_ret2
  exact ⟨v, rfl, HN.out, HK.out, HFz.out⟩
end Go.Proofs.Ytjblcligkgjbjaa
