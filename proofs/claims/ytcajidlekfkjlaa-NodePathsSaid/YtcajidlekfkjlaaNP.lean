/-
STAGE 8: All, of a leaf; of no page.
-/
import Derived.Test.YtcajidlekfkjlaaNO
import Derived.Test.YtcajidlekfkjlaaNM
import Derived.Deep.RegionLaw
namespace Go.Proofs.Ytcajidlekfkjlaa
open Go.RowKit

section
variable {w : World} {S T S' : Nat → Prop} {ops : Array Oper} {o : Oper} {a : Act} {Q : Exit → Act → World → Prop}
set_option maxRecDepth 100000 in
theorem step_appC {K : Act → World → Prop} {E : Prop} (hgd : o.guard = none) (s x : Operand) (ho : o.op = .call { callee := .builtin .append, args := #[s, x], argTypes := #[42, 42] })
    (v : Value) (n : Nat) (l : List CV) (hs : a.eval s = v) (h : OwC w S T v n l) (A : Option Addr) (m c : Nat) (ks : List CV) (hx : a.eval x = .slice A m c) (hr : CR w S' T A m ks) (hb : (n + m) * 32 ≤ 140737488355328)
    (hK : ∀ v' w', OwC w' (fun b => S b ∨ w.heap.size ≤ b) (fun b => T b ∧ b < w.heap.size) v' (n + m) (l ++ ks) → w.grownBy w' v.ownBlock → K (a.put o.dst v') w') : if Region.wanted o (yielded ops a.tmps) = true then Oper.wp Try.prog o a w K Q else E := by
  have hw : Region.wanted o (yielded ops a.tmps) = true := by simp [Region.wanted, hgd]
  rw [if_pos hw]
  obtain ⟨v', w', hrun, h2, h3⟩ := run_appC o.type v n l h A m c ks hr hb
  unfold Oper.wp execOp
  simp only [ho, resolve, invoke, builtin, Sem.run_bind, Sem.run_pure, Result.andThen_ok, List.map_toArray, List.map_cons, List.map_nil, hs, hx, hrun]
  exact hK _ _ h2 h3
end
/-- a variable with a row of cells of its own -/
def CellsAt (w0 w : World) (a : Nat) (es : List CE) (n : Nat) : Prop := ∃ v S T l, Blk w a 42 #[v] ∧ OwC w S T v n l ∧ l.map CV.e = es ∧ (∀ b, S b → w0.heap.size ≤ b) ∧ (∀ b, T b → w0.heap.size ≤ b)
set_option maxHeartbeats 4000000 in
set_option maxRecDepth 100000 in
theorem all11_leaf (n : Nat) (p : PV) (hk : p.k = 2) (d : Int) (a : Nat) (w : World) (ha : Blk w a 42 #[.slice none 0 0]) (hp : p.In w All All) (hn : p.n ≤ 1000) (hf : ∀ x ∈ p.l, x.m ≤ 20001) :
    Calls Try.prog 40 #[stopV n p d (.slice none 0 0) (.slice none 0 0), .pointer (some ⟨a, 0, none⟩)] w fun e w' => e = .returned (.tuple #[]) ∧ CellsAt w w' a p.es p.n ∧ Fr w w' (fun b => b = a) := by
  have HP := Lib.hid hp
  have HA := Lib.hid ha
  have HAL := Lib.hid ha.lt
  have HN := Lib.hid hn
  have HCO := Lib.hid (fun W (hW : Below w.heap.size w W) => copiedC_any p.A p.n p.c p.l W (hp.below hW).r hn hf)
  obtain ⟨es, hes⟩ : ∃ es, es = p.es := ⟨_, rfl⟩
  have HES : Hid (p.l.map CV.e = es) := Lib.hid (by rw [hes]; rfl)
  rw [← hes]
  obtain ⟨pk, ps, px, pA, pn, pc, pl⟩ := p
  have d1 : (pk == 2) = true := by dsimp only at hk; rw [hk]; rfl
  dsimp only at HCO HES HN ⊢
  unfold stopV
  dsimp only
  obtain ⟨W, hW⟩ : ∃ W, W = w.alloc (.cells #[.int .u32 (n : Int), .int .i64 pk, .int .u64 (ps : Int), .int .u32 (px : Int), .slice pA pn pc, .int .i64 d, .slice none 0 0, .slice none 0 0] 82) := ⟨_, rfl⟩
  have hbW : Below w.heap.size w W := by rw [hW]; exact (Below.refl _ _).alloc (Nat.le_refl _) _
  have kW : Blk W w.heap.size 82 #[.int .u32 (n : Int), .int .i64 pk, .int .u64 (ps : Int), .int .u32 (px : Int), .slice pA pn pc, .int .i64 d, .slice none 0 0, .slice none 0 0] := by rw [hW]; exact Blk.new w 82 _
  have aW := ha.below hbW ha.lt
  have x1 := kW.cell 1
  have x4 := kW.cell 4
  have y0 := aW.cell 0
  have yf := aW.frozen 0
  have HKW := Lib.hid kW
  have HAW := Lib.hid aW
  have HBW := Lib.hid hbW
  rw [hW] at x1
  clear hk hp ha hn hf hes kW aW hbW
  go_enter Try.func40, Try.ntmps40
  go_wp2_with fail
  rw [← hW]
  clear x1 hW
  go_region_law (first
    | (refine step_appC rfl (.tmp 7) (.tmp 11) rfl _ 0 [] rfl HO3.out A3 pn c3 lk3 rfl HR3.out HNB.out ?_; intro v4 w4 hown hgrow; have hg' : w3.grownBy w4 (Value.ownBlock (.slice none 0 0)) := hgrow; obtain ⟨A4, c4, rfl, _⟩ := hown.reads (by have := HN.out; omega); have a4 := HA3.out.grown hg' (by simp [Value.ownBlock]); have z4 := a4.cell 0; have zf4 := a4.frozen 0; have HA4 := Lib.hid a4; have HO4 := Lib.hid hown; have HG4 := Lib.hid hg'; clear hown hgrow a4 hg')
    | (go_simp; go_wp2_with (go_at_call 41; refine (HCO.out W.drew HBW.out.drew).mono ?_; rintro e w3 ⟨v3, S3, T3, lk3, rfl, ho3, he3, hS3, hT3, hb3⟩; obtain ⟨A3, c3, rfl, hc3, _, hz3, hr3⟩ := ho3.reads (by have := HN.out; omega); have a3 := HAW.out.drew.below hb3 HAW.out.lt; have k3 := HKW.out.drew.below hb3 HKW.out.lt; have z0 := a3.cell 0; have zf0 := a3.frozen 0; have HO3 := Lib.hid (OwC.nil_ w3 No T3); have HR3 := Lib.hid hr3; have HA3 := Lib.hid a3; have HE3 := Lib.hid he3; have HS3 := Lib.hid hS3; have HT3 := Lib.hid hT3; have HB3 := Lib.hid (HBW.out.drew.trans (hb3.mono HBW.out.drew.size)); have HNB : Hid ((0 + pn) * 32 ≤ 140737488355328) := Lib.hid (by have := HN.out; omega); clear ho3 he3 hS3 hT3 hb3 hr3 a3 k3)))
  all_goals
    go_end0
    obtain ⟨F, hF⟩ : ∃ F, F = w4.setCell ⟨a, 0, none⟩ (.slice A4 pn c4) := ⟨_, rfl⟩
    rw [← hF]
    have hlt : a < w.heap.size := HAL.out
    have h34 : w3.heap.size ≤ w4.heap.size := HG4.out.size
    have hw3 := HB3.out.size
    have hfF : Fr w4 F (fun b => b = a) := by rw [hF]; exact (Fr.refl w4 (fun b => b = a)).setCell (p := ⟨a, 0, none⟩) (Or.inl rfl) _
    have ho := HO4.out
    rw [Nat.zero_add, List.nil_append] at ho
    refine ⟨rfl, ⟨_, _, _, lk3, by rw [hF]; exact HA4.out.set_ 0 _, ho.keep hfF (fun b hb e => ?_) (fun b hb e => ?_), HE3.out.trans HES.out, fun b hb => ?_, fun b hb => ?_⟩, ?_⟩
    · rcases hb with hb | hb
      · exact hb
      · omega
    · have h1 := HT3.out b hb.1; have h2 := HBW.out.size; change W.heap.size ≤ b at h1; omega
    · rcases hb with hb | hb
      · exact hb.elim
      · omega
    · have h1 := HT3.out b hb.1; have h2 := HBW.out.size; change W.heap.size ≤ b at h1; omega
    · exact ((Fr.of_below HB3.out (fun b => b = a)).grown HG4.out (fun k hk => by simp [Value.ownBlock] at hk)).trans hfF fun b hb => Or.inl hb
end Go.Proofs.Ytcajidlekfkjlaa
