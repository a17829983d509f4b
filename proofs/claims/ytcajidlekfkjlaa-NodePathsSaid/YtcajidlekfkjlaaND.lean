/-
STAGE 8: TREES IN MEMORY; Get.
-/
import Derived.Test.YtcajidlekfkjlaaIVs
import Derived.Test.YtcajidlekfkjlaaUW
import Derived.BigQuiet
import Derived.RegionTactic
import Derived.ChangeAlike
import Derived.Handy
namespace Go.Proofs.Ytcajidlekfkjlaa
open Go.RowKit

/-- a tree in memory -/
structure TV where
  A : Option Addr
  n : Nat
  c : Nat
  l : List IV
  bad : Nat
  err : Int
def TV.agg (t : TV) : Value := .agg #[.slice t.A t.n t.c, .int .u32 (t.bad : Int), .int .i64 t.err]
structure TV.In (w : World) (S : Nat → Prop) (t : TV) : Prop where
  r : IVR w S t.A t.n t.l
  bad : t.bad < 4294967296
  nc : t.n ≤ t.c
  nz : t.A = none → t.c = 0
  e1 : -9223372036854775808 ≤ t.err
  e2 : t.err ≤ 9223372036854775807
set_option maxRecDepth 100000 in
theorem TV.In.keep {w w' : World} {S U : Nat → Prop} {t : TV} (h : t.In w S) (hf : Fr w w' U) (hS : ∀ b, S b → ¬ U b) : t.In w' S := ⟨h.r.keep hf hS, h.bad, h.nc, h.nz, h.e1, h.e2⟩
set_option maxRecDepth 100000 in
theorem TV.In.mono {w : World} {S S' : Nat → Prop} {t : TV} (h : t.In w S) (hS : ∀ b, b < w.heap.size → S b → S' b) : t.In w S' := ⟨h.r.mono hS, h.bad, h.nc, h.nz, h.e1, h.e2⟩
set_option maxRecDepth 100000 in
theorem TV.In.below {w w' : World} {S : Nat → Prop} {t : TV} (h : t.In w S) (hb : Below w.heap.size w w') : t.In w' S := h.keep (Fr.of_below hb No) fun _ _ hn => hn
/-- what is told of a page -/
def TV.get (t : TV) (n : Nat) : PV × Int := if t.err ≠ 0 ∧ n = t.bad then (PV.zero, t.err) else match t.l.find? (fun x => x.t == n) with | some x => (x.p, 0) | none => (PV.zero, 2)
set_option maxRecDepth 100000 in
theorem PV.In.zero (w : World) (S T : Nat → Prop) : PV.zero.In w S T := ⟨CR.nil_ _, Nat.le_refl _, fun _ => rfl, by decide, by decide, by decide, by decide⟩
set_option maxRecDepth 100000 in
theorem TV.get_in {w : World} {S : Nat → Prop} {t : TV} (h : t.In w S) (n : Nat) : (t.get n).1.In w S S := by
  unfold TV.get
  split
  · exact PV.In.zero w S S
  · split
    · rename_i x hx
      exact (h.r.2.1 x (List.mem_of_find?_eq_some hx)).p
    · exact PV.In.zero w S S
set_option maxRecDepth 100000 in
theorem find_at {l : List IV} {k n : Nat} {x : IV} (hk : l[k]? = some x) (hl : ∀ y ∈ l.take k, y.t ≠ n) (hx : x.t = n) : l.find? (fun x => x.t == n) = some x := by
  induction l generalizing k with
  | nil => simp at hk
  | cons a r ih =>
    cases k with
    | zero => simp at hk; subst hk; simp [hx]
    | succ k =>
      have ha : a.t ≠ n := hl a (by simp)
      rw [List.find?_cons_of_neg (by simpa using ha)]
      exact ih (by simpa using hk) fun y hy => hl y (by simp [hy])
set_option maxRecDepth 100000 in
theorem find_no {l : List IV} {n : Nat} (hl : ∀ y ∈ l, y.t ≠ n) : l.find? (fun x => x.t == n) = none := by
  rw [List.find?_eq_none]
  intro x hx
  simpa using hl x hx
set_option maxRecDepth 100000 in
theorem mem_take_succ {α : Type} {l : List α} {k : Nat} {x : α} (hk : l[k]? = some x) {y : α} (hy : y ∈ l.take (k + 1)) : y ∈ l.take k ∨ y = x := by
  have hl : k < l.length := by
    rcases Nat.lt_or_ge k l.length with h | h
    · exact h
    · rw [List.getElem?_eq_none h] at hk; cases hk
  have e : l[k] = x := by rw [List.getElem?_eq_getElem hl] at hk; injection hk
  rw [List.take_succ_eq_append_getElem hl, e] at hy
  simpa using hy
set_option maxHeartbeats 1000000 in
set_option maxRecDepth 100000 in
theorem get_any (t : TV) (n : Nat) (w : World) (S : Nat → Prop) (h : t.In w S) :
    Calls Try.prog 9 #[t.agg, .int .u32 (n : Int)] w fun e w' => e = .returned (.tuple #[(t.get n).1.agg, .int .i64 (t.get n).2]) ∧ Below w.heap.size w w' := by
  obtain ⟨A, m, c, l, bad, err⟩ := t
  have hr := h.r
  have hbad := h.bad
  have he1 := h.e1
  have he2 := h.e2
  simp only [TV.agg] at hr hbad he1 he2 ⊢
  clear h
  by_cases h0 : err ≠ 0 ∧ n = bad
  · obtain ⟨h1, rfl⟩ := h0
    have hg : TV.get ⟨A, m, c, l, n, err⟩ n = (PV.zero, err) := by unfold TV.get; rw [if_pos ⟨h1, rfl⟩]
    have d1 : (err != 0) = true := bne_iff_ne.2 h1
    rw [hg]
    clear hr hg h1
    go_enter Try.func9, Try.ntmps9
    go_wp2_with fail
    go_region
    go_wp2_with fail
    refine bodyPost_ret (v := .tuple #[PV.zero.agg, .int .i64 err]) (by simp [results, Try.results9, go_sem, PV.zero, PV.agg]) rfl ⟨rfl, ?_⟩
    exact (((Below.refl _ _).alloc (Nat.le_refl _) _).alloc (by simp) _).drew
  · obtain ⟨rs, hrs⟩ : ∃ rs, rs = TV.get ⟨A, m, c, l, bad, err⟩ n := ⟨_, rfl⟩
    rw [← hrs]
    have hg : rs = (match l.find? (fun x => x.t == n) with | some x => (x.p, 0) | none => (PV.zero, 2)) := by rw [hrs]; unfold TV.get; rw [if_neg h0]
    have HG := Lib.hid hg
    have D : (err != 0) = false ∨ ((err != 0) = true ∧ ((n : Int) == (bad : Int)) = false) := by
      by_cases h1 : err = 0
      · left; rw [h1]; rfl
      · right; exact ⟨bne_iff_ne.2 h1, beq_false_of_ne (by have : ¬ n = bad := fun e => h0 ⟨h1, e⟩; omega)⟩
    clear hg hrs h0
    have hm := hr.2.2.1
    have HR := Lib.hid hr
    clear hr he1 he2
    rcases D with d1 | ⟨d1, d2⟩
    all_goals
      go_enter Try.func9, Try.ntmps9
      go_wp2_with fail
      go_loop [6] (fun v => ∃ k : Nat, k ≤ m ∧ v = .int .i64 (k : Int) ∧ ∀ y ∈ l.take k, y.t ≠ n) (fun v => m - (intOf v).toNat)
      case atStart => exact ⟨0, Nat.zero_le _, rfl, by simp⟩
      case round =>
        obtain ⟨k, hk, rfl, hno⟩ := hrel
        have HNO := Lib.hid hno
        clear hno
        by_cases hlt : k < m
        · have hws : IntKind.i64.wrap ((k : Int) + 1) = ((k + 1 : Nat) : Int) := by rw [IntWalk.i64_in _ (by omega)]; omega
          obtain ⟨g, o, x, hA, hgl, _, hx, hxi, c0, c1, c2, c3, c4⟩ := HR.out.at_ hlt
          subst hA
          have HX := Lib.hid hx
          clear hx
          by_cases hxn : x.t = n
          · have d3 : ((x.t : Int) == (n : Int)) = true := by rw [hxn]; simp
            have HXN := Lib.hid hxn
            have HXI := Lib.hid hxi
            clear hxn hxi
            go_wp2_with fail
            have hrs : rs = (x.p, 0) := by rw [HG.out, find_at HX.out HNO.out HXN.out]
            refine bodyPost_ret (v := .tuple #[x.p.agg, .int .i64 0]) (by simp [results, Try.results9, go_sem, PV.agg]) rfl ⟨by rw [hrs], ?_⟩
            exact ((Below.refl _ _).alloc (Nat.le_refl _) _).alloc (by simp) _
          · have d3 : ((x.t : Int) == (n : Int)) = false := beq_false_of_ne (by omega)
            have HXN := Lib.hid hxn
            have HXI := Lib.hid hxi
            clear hxn hxi
            go_wp2_with fail
            go_round
            case rel => exact ⟨k + 1, by omega, by go_num, fun y hy => (mem_take_succ HX.out hy).elim (HNO.out y) fun e => e ▸ HXN.out⟩
            case measure => simp [intOf]; omega
        · obtain rfl : k = m := by omega
          go_wp2_with fail
          have hrs : rs = (PV.zero, 2) := by
            rw [HG.out, find_no fun y hy => HNO.out y (by rw [List.take_of_length_le (by rw [HR.out.1]; exact Nat.le_refl _)]; exact hy)]
          refine bodyPost_ret (v := .tuple #[PV.zero.agg, .int .i64 2]) (by simp [results, Try.results9, go_sem, PV.agg, PV.zero]) rfl ⟨by rw [hrs], ?_⟩
          exact ((Below.refl _ _).alloc (Nat.le_refl _) _).alloc (by simp) _
end Go.Proofs.Ytcajidlekfkjlaa
