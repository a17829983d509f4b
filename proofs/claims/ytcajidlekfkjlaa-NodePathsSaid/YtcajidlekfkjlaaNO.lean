/-
STAGE 8: slices.Clone of cells; copied.
-/
import Derived.Test.YtcajidlekfkjlaaPF
import Derived.OrdersHeld
import Derived.Deep.RegionHeld
import Derived.Deep.Cut
namespace Go.Proofs.Ytcajidlekfkjlaa
open Go.RowKit

set_option maxRecDepth 100000 in
theorem set_self {l : List CE} {k : Nat} {x : CE} (h : l[k]? = some x) : l.set k x = l := by
  induction l generalizing k with
  | nil => simp at h
  | cons y r ih =>
    cases k with
    | zero => simp at h; subst h; rfl
    | succ k => simp at h; rw [List.set_cons_succ, ih h]
set_option maxRecDepth 100000 in
theorem ccs_set (l : List CV) : ∀ (k : Nat) (x : CV) (A : Option Addr) (m c : Nat) (d : List Nat), l[k]? = some x → (ccs l).set (k * 3 + 2) (.slice A m c) = ccs (l.set k ⟨x.u, x.k, A, m, c, d⟩) := by
  induction l with
  | nil => intro k x A m c d h; simp at h
  | cons v r ih =>
    intro k x A m c d h
    cases k with
    | zero => simp at h; subst h; rfl
    | succ k =>
      simp at h
      have := ih k x A m c d h
      simp only [ccs, show (k + 1) * 3 + 2 = (k * 3 + 2) + 1 + 1 + 1 by omega, List.set_cons_succ, this]
set_option maxRecDepth 100000 in
/-- the bytes of one cell of an own row are others -/
theorem OwC.set2 {w : World} {S T T' : Nat → Prop} {v : Value} {n : Nat} {l : List CV} (h : OwC w S T v n l) {k : Nat} {x : CV} (hx : l[k]? = some x) :
    ∃ g cap, v = .slice (some ⟨g, 0, none⟩) n cap ∧ S g ∧ g < w.heap.size ∧ w.cell? ⟨g, k * 3, none⟩ = some (.bool x.u) ∧ w.cell? ⟨g, k * 3 + 1, none⟩ = some (.int .u32 (x.k : Int)) ∧ w.cell? ⟨g, k * 3 + 2, none⟩ = some (.slice x.A x.m x.c) ∧ w.frozen? ⟨g, k * 3 + 2, none⟩ = false ∧ x.In w T ∧ ¬ T g ∧
    ∀ (A : Option Addr) (m c : Nat) (d : List Nat), CV.In w T' ⟨x.u, x.k, A, m, c, d⟩ → (∀ b, b < w.heap.size → T b → T' b) → ¬ T' g → OwC (w.setCell ⟨g, k * 3 + 2, none⟩ (.slice A m c)) S T' v n (l.set k ⟨x.u, x.k, A, m, c, d⟩) := by
  obtain ⟨⟨h1, h2⟩, h3, h4, h5⟩ := h
  have hk : k < l.length := by
    rcases Nat.lt_or_ge k l.length with h' | h'
    · exact h'
    · rw [List.getElem?_eq_none h'] at hx; cases hx
  rw [ccs_len] at h1
  rcases h2 with ⟨rfl, h0⟩ | ⟨g, cap, cur, rfl, hg0, hh, hc, hm, hcur, htake⟩
  · omega
  · have hgl := Blk.lt hh
    have key : ∀ j u, j < n * 3 → (ccs l)[j]? = some u → w.cell? ⟨g, j, none⟩ = some u := by
      intro j u hj hu
      rw [Blk.cell hh j]
      rw [← htake, List.getElem?_take_of_lt hj] at hu
      simpa using hu
    obtain ⟨a, b, c⟩ := ccs_at l k x hx
    refine ⟨g, cap, rfl, h4 g rfl, hgl, key _ _ (by omega) a, key _ _ (by omega) b, key _ _ (by omega) c, Blk.frozen hh _, h3 x (List.mem_of_getElem? hx), h5 g rfl, fun A m c d hin hT hn => ⟨⟨?_, Or.inr ⟨g, cap, cur.setIfInBounds (k * 3 + 2) (.slice A m c), rfl, hg0, Blk.set_ hh _ _, hc, hm, by simpa using hcur, ?_⟩⟩, fun y hy => ?_, h4, fun q hq => ?_⟩⟩
    · rw [ccs_len, List.length_set]; exact h1
    · have hl : cur.toList.take (n * 3) = ccs l := htake
      rw [Array.toList_setIfInBounds, List.take_set, hl, ccs_set l k x A m c d hx]
    · have hfr : Fr w (w.setCell ⟨g, k * 3 + 2, none⟩ (.slice A m c)) (fun b => b = g) := (Fr.refl w (fun b => b = g)).setCell (p := ⟨g, k * 3 + 2, none⟩) (Or.inl rfl) _
      have hyi : y.In w T' := by
        rcases List.mem_or_eq_of_mem_set hy with hy | rfl
        · exact (h3 y hy).mono hT
        · exact hin
      exact hyi.keep hfr fun b hb e => hn (e ▸ hb)
    · have : q = g := by simp [Value.ownBlock] at hq; exact hq.symm
      rw [this]; exact hn
set_option maxRecDepth 100000 in
theorem cloneC_any (T : Nat → Prop) (A : Option Addr) (n c : Nat) (l : List CV) (w : World) (h : CR w All T A n l) (hn : n ≤ 1000) :
    Calls Try.prog 61 #[.slice A n c] w fun e w' => ∃ v, e = .returned v ∧ OwC w' (fun b => w.heap.size ≤ b) (fun b => T b ∧ b < w.heap.size) v n l ∧ Below w.heap.size w w' := by
  rcases A with _ | ad
  · have h0 : n = 0 := by
      rcases Nat.eq_zero_or_pos n with h0 | h0
      · exact h0
      · obtain ⟨_, _, e, _⟩ := h.2.2.2 h0
        cases e
    subst h0
    have hk : l = [] := List.eq_nil_of_length_eq_zero h.1
    subst hk
    clear h
    have he := fun W : World => Lib.run_eql_slice_nil (P := Try.prog) W 42 48 none 0 c 0 0 Try.underlying42
    go_enter Try.func61, Try.ntmps61
    go_wp2
    go_ret
    exact ⟨_, rfl, OwC.nil_ _ _ _, Below.refl _ _⟩
  · have he := fun W : World => Lib.run_eql_slice_nil (P := Try.prog) W 42 48 (some ad) n c 0 0 Try.underlying42
    have hr := (h.mono (S' := All) (T' := fun b => T b ∧ b < w.heap.size) (fun _ _ _ => trivial) fun b hb hT => ⟨hT, hb⟩).below ((Below.refl w.heap.size w).alloc (Nat.le_refl _) (.cells #[] 48))
    have HR := Lib.hid hr
    have HO := Lib.hid (OwC.made w (fun b => w.heap.size ≤ b) (fun b => T b ∧ b < w.heap.size) (Nat.le_refl _) fun h => Nat.lt_irrefl _ h.2)
    have HB := Lib.hid ((Below.refl w.heap.size w).alloc (Nat.le_refl _) (.cells #[] 48))
    clear h hr
    go_enter Try.func61, Try.ntmps61
    go_wp2_with (at_builtin; go_must (refine wpList_appC rfl (.tmp 5) (.tmp 6) rfl _ 0 [] rfl HO.out (some ad) n c l rfl HR.out (by omega) ?_); intro v1 w2 hown hgrow; have HS := Lib.hid hown; have HG := Lib.hid hgrow; clear hown hgrow)
    go_ret
    refine ⟨_, rfl, ?_, ?_⟩
    · have h1 := HS.out
      rw [Nat.zero_add, List.nil_append] at h1
      exact h1.mono (fun b _ hb => hb.elim id fun hb => by simp at hb; omega) (fun b _ hb => hb.1) fun k hk hb => h1.2.2.2 k hk ⟨hb, by simp; omega⟩
    · exact (((Fr.refl w No).alloc _).grown HG.out (fun q (hq : Value.ownBlock (.slice (some ⟨w.heap.size, 0, none⟩) 0 0) = some q) => Or.inr (by simp [Value.ownBlock] at hq; omega))).no_below
/-- what copied goes on with: the first k cells have bytes of their own -/
structure CO (w0 wr : World) (l : List CV) (n k : Nat) (v : Value) (S T Tf : Nat → Prop) (lk : List CV) : Prop where
  o : OwC wr S T v n lk
  e : lk.map CV.e = l.map CV.e
  own : ∀ i x, i < k → lk[i]? = some x → x.In wr Tf
  s0 : ∀ b, S b → w0.heap.size ≤ b
  t0 : ∀ b, Tf b → w0.heap.size ≤ b
  tt : ∀ b, Tf b → T b
/-- a new row of cells, that share nothing with others, is answered -/
def NewC (w : World) (es : List CE) (n : Nat) (e : Ending) (w' : World) : Prop :=
  ∃ v S T lk, e = .returned v ∧ OwC w' S T v n lk ∧ lk.map CV.e = es ∧ (∀ b, S b → w.heap.size ≤ b) ∧ (∀ b, T b → w.heap.size ≤ b) ∧ Below w.heap.size w w'
set_option maxHeartbeats 4000000 in
set_option maxRecDepth 100000 in
theorem copiedC_any (A : Option Addr) (n c : Nat) (l : List CV) (w : World) (h : CR w All All A n l) (hn : n ≤ 1000) (hf : ∀ x ∈ l, x.m ≤ 20001) :
    Calls Try.prog 41 #[.slice A n c] w (NewC w (l.map CV.e) n) := by
  have HL : Hid (l.length = n) := Lib.hid h.1
  have HFL := Lib.hid (show ∀ c ∈ l.map CV.e, c.d.length ≤ 20001 from fun c hc => by
    obtain ⟨x, hx, rfl⟩ := List.mem_map.1 hc
    have h1 := hf x hx
    have h2 := (h.2.1 x hx).len
    show x.d.length ≤ 20001
    omega)
  have HCL := Lib.hid (cloneC_any (fun b => b < w.heap.size) A n c l w (h.mono (fun _ _ _ => trivial) fun b hb _ => hb) hn)
  clear h hf
  go_enter Try.func41, Try.ntmps41
  go_wp2_with fail
  refine HCL.out.mono ?_
  rintro e w2 ⟨v, rfl, hown, hb2⟩
  obtain ⟨vA, vc, rfl, hvc, _, hnz, hcr⟩ := hown.reads (by omega)
  have HO := Lib.hid (hown.mono (S' := fun b => w.heap.size ≤ b) (T' := fun b => b < w.heap.size) (fun b _ hb => hb) (fun b _ hb => hb.1) fun k hk hb => by have := hown.2.2.1 k hk; omega)
  have HB2 := Lib.hid hb2
  clear hown hb2 hcr hnz hvc
  go_wp2_with fail
  go_loopw [8] (fun i wr => ∃ (k : Nat) (T Tf : Nat → Prop) (lk : List CV), k ≤ n ∧ i = .int .i64 (k : Int) ∧ CO w wr l n k (.slice vA n vc) (fun b => w.heap.size ≤ b) T Tf lk ∧ Below w.heap.size w wr) (fun i _ => n - (intOf i).toNat)
  case atStart => exact ⟨0, _, No, l, by omega, rfl, ⟨HO.out, rfl, fun i x hi => by omega, fun b hb => hb, fun b hb => hb.elim, fun b hb => hb.elim⟩, HB2.out⟩
  case round =>
    obtain ⟨k, T, Tf, lk, hk, rfl, hco, hbr⟩ := hrel
    have HC := Lib.hid hco
    have HB := Lib.hid hbr
    have hlk : lk.length = n := hco.o.len
    clear hco hbr
    by_cases hlt : k < n
    · have hx : lk[k]? = some lk[k] := List.getElem?_eq_getElem (by omega)
      obtain ⟨x, hxe⟩ : ∃ x, x = lk[k] := ⟨_, rfl⟩
      rw [← hxe] at hx
      obtain ⟨g, cap, ev, hSg, hgl, b0, b1, b2, bf, hxi, hng, _⟩ := HC.out.o.set2 (T' := T) hx
      injection ev with ev1 ev2 ev3
      subst ev1 ev3
      have HX := Lib.hid hx
      have HXI := Lib.hid hxi
      obtain ⟨u, kk, xA, m, xc, d⟩ := x
      simp only at b0 b1 b2
      have hws : IntKind.i64.wrap ((k : Int) + 1) = ((k + 1 : Nat) : Int) := by rw [IntWalk.i64_in _ (by omega)]; omega
      have hin : ((k : Int) < (n : Int)) := by omega
      have hkc : IntKind.i64.wrap (k : Int) = (k : Int) := IntWalk.i64_in _ (by omega)
      have HCLN := Lib.hid (clone_any wr T xA m xc d HXI.out.b (by have h8 := HFL.out _ (HC.out.e ▸ List.mem_map_of_mem (List.mem_of_getElem? HX.out)); have h9 := HXI.out.len; simp only [CV.e] at h8 h9; omega))
      have HLT := Lib.hid hlt
      have HSG := Lib.hid hSg
      have HNG := Lib.hid hng
      have HLK := Lib.hid hlk
      clear hx hxe hxi b0 b1 hSg hng hlk
      go_wp2_with fail
      refine HCLN.out.mono ?_
      intro e x2 hnw
      obtain ⟨v2, rfl, hnew, hb⟩ := hnw
      obtain ⟨A2, c2', rfl, hmc2, hnz2, hrb2⟩ := Ow.reads hnew
      have hdl : d.length = m := HXI.out.len
      rw [hdl] at hrb2 hmc2
      have hf2 : Fr wr x2 No := Fr.of_below hb No
      obtain ⟨g', cap', e', hSg', hgl', k0, k1, k2, kf, kin, kn, kset⟩ := (HC.out.o.fr hf2).set2 (T' := fun b => (T b ∧ b < wr.heap.size) ∨ (wr.heap.size ≤ b ∧ b < x2.heap.size)) HX.out
      injection e' with e1 e2 e3
      injection e1 with e1
      injection e1 with e1
      subst e1
      clear e2 e3
      have hins : ∀ (U : Nat → Prop), (∀ b, wr.heap.size ≤ b ∧ b < x2.heap.size → U b) → CV.In x2 U ⟨u, kk, A2, m, c2', d⟩ := fun U hU => ⟨hrb2.mono fun b hlt hb => hU b ⟨hb, hlt⟩, HXI.out.k, hmc2, HXI.out.ml, hnz2⟩
      have ho2 := kset A2 m c2' d (hins _ fun b hb => Or.inr hb) (fun b hlt hb => by
        by_cases hh : b < wr.heap.size
        · exact Or.inl ⟨hb, hh⟩
        · exact Or.inr ⟨by omega, hlt⟩) (fun hb => by
        rcases hb with hb | hb
        · exact kn hb.1
        · omega)
      have HO2 := Lib.hid ho2
      have HIN := Lib.hid (hins (fun b => wr.heap.size ≤ b ∧ b < x2.heap.size) fun b hb => hb)
      have HF2 := Lib.hid hf2
      have HKN := Lib.hid kn
      have HBX := Lib.hid (HB.out.trans (hb.mono HB.out.size))
      have HSZ := Lib.hid hb.size
      clear hnew hb hrb2 ho2 hins kset kin k0 k1 hf2 b2 bf hmc2 hnz2
      rw [hdl]
      clear hdl
      go_wp2_with fail
      obtain ⟨F, hF⟩ : ∃ F, F = x2.setCell ⟨g, k * 3 + 2, none⟩ (.slice A2 m c2') := ⟨_, rfl⟩
      have hfF : Fr x2 F (fun b => b = g) := by rw [hF]; exact (Fr.refl x2 (fun b => b = g)).setCell (p := ⟨g, k * 3 + 2, none⟩) (Or.inl rfl) _
      have HO3 := HO2.out
      rw [← hF] at HO3
      have hbF : Below w.heap.size w F := by rw [hF]; exact HBX.out.setCell (p := ⟨g, k * 3 + 2, none⟩) HSG.out _
      rw [← hF]
      go_roundw
      case rel =>
        refine ⟨k + 1, _, fun b => (Tf b ∧ b < wr.heap.size) ∨ (wr.heap.size ≤ b ∧ b < x2.heap.size), _, by have := HLT.out; omega, by go_num, ⟨HO3, ?_, ?_, fun b hb => hb, ?_, ?_⟩, hbF⟩
        · rw [List.map_set, HC.out.e]
          have h9 := es_at HX.out
          rw [HC.out.e] at h9
          exact set_self h9
        · intro i x hi hx
          rcases Nat.lt_or_ge i k with hik | hik
          · rw [List.getElem?_set_ne (by omega)] at hx
            exact (((HC.out.own i x hik hx).mono (T' := fun b => Tf b ∧ b < wr.heap.size) fun b hlt hb => ⟨hb, hlt⟩).keep HF2.out fun _ _ hn => hn).keep hfF (fun b hb e => HKN.out (e ▸ HC.out.tt b hb.1)) |>.mono fun b _ hb => Or.inl hb
          · obtain rfl : i = k := by omega
            rw [List.getElem?_set_self (by have := HLK.out; have := HLT.out; omega)] at hx
            injection hx with hx
            subst hx
            exact (HIN.out.keep hfF fun b hb e => by omega).mono fun b _ hb => Or.inr hb
        · intro b hb
          rcases hb with hb | hb
          · exact HC.out.t0 b hb.1
          · have := HB.out.size; omega
        · intro b hb
          rcases hb with hb | hb
          · exact Or.inl ⟨HC.out.tt b hb.1, hb.2⟩
          · exact Or.inr hb
      case measure => simp [intOf]; have := HLT.out; omega
    · have h1d : decide ((k : Int) < (n : Int)) = false := decide_eq_false (by omega)
      have h1d2 : decide (k < n) = false := decide_eq_false hlt
      have HKN := Lib.hid (show k = n by omega)
      go_wp2_with fail
      go_ret
      refine ⟨_, fun b => w.heap.size ≤ b, Tf, lk, rfl, ⟨HC.out.o.1, fun x hx => ?_, HC.out.o.2.2.1, fun q hq hb => HC.out.o.2.2.2 q hq (HC.out.tt q hb)⟩, HC.out.e, fun b hb => hb, HC.out.t0, HB.out⟩
      obtain ⟨i, hi, e⟩ := List.getElem_of_mem hx
      exact HC.out.own i x (by have := HKN.out; omega) (by rw [List.getElem?_eq_getElem hi, e])
end Go.Proofs.Ytcajidlekfkjlaa
