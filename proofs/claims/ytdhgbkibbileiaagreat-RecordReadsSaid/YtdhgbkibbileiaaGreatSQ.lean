/-
SQ
-/
import Derived.Test.YtdhgbkibbileiaaGreatSE
import Derived.Test.YtdhgbkibbileiaaGreatRQ
import Derived.Test.YtdhgbkibbileiaaGreatSO
import Derived.Test.YtdhgbkibbileiaaGreatSD
set_option maxRecDepth 100000
namespace Go.Proofs.YtdhgbkibbileiaaGreat
open Go.ChangeShapes Go.WideShapes Go.ChangeAt Go.RowKit
def RVR (w : World) (S : Nat → Prop) (A : Option Addr) (n : Nat) (l : List RV) : Prop :=
 l.length = n ∧ (∀ x ∈ l, x.In w S) ∧ n ≤ 9223372036854775807 ∧ (0 < n → ∃ g o, A = some ⟨g, o, none⟩ ∧ g < w.heap.size ∧ S g ∧ ∀ i x, l[i]? = some x → w.cell? ⟨g, o + i * 15, none⟩ = some (.int .i64 x.k) ∧ w.cell? ⟨g, o + i * 15 + 1, none⟩ = some (.int .u64 (x.s : Int)) ∧ w.cell? ⟨g, o + i * 15 + 2, none⟩ = some (.int .u32 (x.t : Int)) ∧ w.cell? ⟨g, o + i * 15 + 3, none⟩ = some (.int .u64 (x.a : Int)) ∧ w.cell? ⟨g, o + i * 15 + 4, none⟩ = some (.int .u64 (x.b : Int)) ∧ w.cell? ⟨g, o + i * 15 + 5, none⟩ = some (.int .u32 (x.pg : Int)) ∧ w.cell? ⟨g, o + i * 15 + 6, none⟩ = some (.int .u32 (x.rt : Int)) ∧ w.cell? ⟨g, o + i * 15 + 7, none⟩ = some (.int .i64 x.o.k) ∧ w.cell? ⟨g, o + i * 15 + 8, none⟩ = some (.int .i64 x.o.s) ∧ w.cell? ⟨g, o + i * 15 + 9, none⟩ = some (.int .u32 (x.o.t : Int)) ∧ w.cell? ⟨g, o + i * 15 + 10, none⟩ = some (.slice x.o.A x.o.m x.o.c) ∧ w.cell? ⟨g, o + i * 15 + 11, none⟩ = some (.slice x.iA x.im x.ic) ∧ w.cell? ⟨g, o + i * 15 + 12, none⟩ = some (.slice x.lA x.lm x.lc) ∧ w.cell? ⟨g, o + i * 15 + 13, none⟩ = some (.slice x.dA x.dm x.dc) ∧ w.cell? ⟨g, o + i * 15 + 14, none⟩ = some (.int .u32 (x.nx : Int)))
theorem RVR.keep {w w' : World} {S U : Nat → Prop} {A : Option Addr} {n : Nat} {l : List RV} (h : RVR w S A n l) (hf : Fr w w' U) (hS : ∀ b, S b → ¬ U b) : RVR w' S A n l := by
 obtain ⟨h1, h2, h3, h4⟩ := h
 refine ⟨h1, fun x hx => (h2 x hx).keep hf hS, h3, fun hn => ?_⟩
 obtain ⟨g, o, e, hg, hs, hc⟩ := h4 hn
 refine ⟨g, o, e, Nat.lt_of_lt_of_le hg hf.size, hs, fun i x hi => ?_⟩
 have hb := hf.block g hg (hS g hs)
 obtain ⟨k0, k1, k2, k3, k4, k5, k6, k7, k8, k9, k10, k11, k12, k13, k14⟩ := hc i x hi
 exact ⟨(World.cell?_of_block hb).trans k0, (World.cell?_of_block hb).trans k1, (World.cell?_of_block hb).trans k2, (World.cell?_of_block hb).trans k3, (World.cell?_of_block hb).trans k4, (World.cell?_of_block hb).trans k5, (World.cell?_of_block hb).trans k6, (World.cell?_of_block hb).trans k7, (World.cell?_of_block hb).trans k8, (World.cell?_of_block hb).trans k9, (World.cell?_of_block hb).trans k10, (World.cell?_of_block hb).trans k11, (World.cell?_of_block hb).trans k12, (World.cell?_of_block hb).trans k13, (World.cell?_of_block hb).trans k14⟩
theorem RVR.mono {w : World} {S S' : Nat → Prop} {A : Option Addr} {n : Nat} {l : List RV} (h : RVR w S A n l) (hS : ∀ b, b < w.heap.size → S b → S' b) : RVR w S' A n l := by
 obtain ⟨h1, h2, h3, h4⟩ := h
 refine ⟨h1, fun x hx => (h2 x hx).mono hS, h3, fun hn => ?_⟩
 obtain ⟨g, o, e, hg, hs, hc⟩ := h4 hn
 exact ⟨g, o, e, hg, hS g hg hs, hc⟩
theorem RVR.at_ {w : World} {S : Nat → Prop} {A : Option Addr} {n : Nat} {l : List RV} (h : RVR w S A n l) {i : Nat} (hi : i < n) : ∃ g o x, A = some ⟨g, o, none⟩ ∧ g < w.heap.size ∧ S g ∧ l[i]? = some x ∧ x.In w S ∧
  w.cell? ⟨g, o + i * 15, none⟩ = some (.int .i64 x.k) ∧ w.cell? ⟨g, o + i * 15 + 1, none⟩ = some (.int .u64 (x.s : Int)) ∧ w.cell? ⟨g, o + i * 15 + 2, none⟩ = some (.int .u32 (x.t : Int)) ∧ w.cell? ⟨g, o + i * 15 + 3, none⟩ = some (.int .u64 (x.a : Int)) ∧ w.cell? ⟨g, o + i * 15 + 4, none⟩ = some (.int .u64 (x.b : Int)) ∧ w.cell? ⟨g, o + i * 15 + 5, none⟩ = some (.int .u32 (x.pg : Int)) ∧ w.cell? ⟨g, o + i * 15 + 6, none⟩ = some (.int .u32 (x.rt : Int)) ∧ w.cell? ⟨g, o + i * 15 + 7, none⟩ = some (.int .i64 x.o.k) ∧ w.cell? ⟨g, o + i * 15 + 8, none⟩ = some (.int .i64 x.o.s) ∧ w.cell? ⟨g, o + i * 15 + 9, none⟩ = some (.int .u32 (x.o.t : Int)) ∧ w.cell? ⟨g, o + i * 15 + 10, none⟩ = some (.slice x.o.A x.o.m x.o.c) ∧ w.cell? ⟨g, o + i * 15 + 11, none⟩ = some (.slice x.iA x.im x.ic) ∧ w.cell? ⟨g, o + i * 15 + 12, none⟩ = some (.slice x.lA x.lm x.lc) ∧ w.cell? ⟨g, o + i * 15 + 13, none⟩ = some (.slice x.dA x.dm x.dc) ∧ w.cell? ⟨g, o + i * 15 + 14, none⟩ = some (.int .u32 (x.nx : Int)) := by
 obtain ⟨h1, h2, _, h4⟩ := h
 obtain ⟨g, o, e, hg, hs, hc⟩ := h4 (by omega)
 have hl : l[i]? = some l[i] := List.getElem?_eq_getElem (by omega)
 exact ⟨g, o, l[i], e, hg, hs, hl, h2 _ (List.getElem_mem _), hc i _ hl⟩
theorem flat_at {α β : Type} (f : α → List β) (k : Nat) (xs : List α) (h : ∀ x ∈ xs, (f x).length = k) (i : Nat) (x : α) (hx : xs[i]? = some x) (j : Nat) (hj : j < k) : (xs.flatMap f)[i * k + j]? = (f x)[j]? := by
 induction xs generalizing i with
 | nil => simp at hx
 | cons y r ih =>
   have hy := h y List.mem_cons_self
   rw [List.flatMap_cons]
   cases i with
   | zero =>
     simp at hx
     subst hx
     rw [List.getElem?_append_left (by omega)]
     congr 1
     omega
   | succ i =>
     have e : (i + 1) * k = i * k + k := Nat.succ_mul i k
     rw [List.getElem?_append_right (by omega), hy]
     have := ih (fun x hx => h x (List.mem_cons_of_mem _ hx)) i (by simpa using hx)
     rw [← this]
     congr 1
     omega
def rvs (l : List RV) : List Value := l.flatMap fun v => (rcs v).toList
theorem rvs_len (vs : List RV) : (rvs vs).length = vs.length * 15 := by
 induction vs with
 | nil => rfl
 | cons v r ih =>
   have h15 : (rcs v).toList.length = 15 := rfl
   unfold rvs at ih ⊢
   rw [List.flatMap_cons, List.length_append, List.length_cons, ih, h15]
   omega
theorem rvs_at (vs : List RV) (i : Nat) (v : RV) (h : vs[i]? = some v) : (rvs vs)[i * 15]? = some (.int .i64 v.k) ∧ (rvs vs)[i * 15 + 1]? = some (.int .u64 (v.s : Int)) ∧ (rvs vs)[i * 15 + 2]? = some (.int .u32 (v.t : Int)) ∧ (rvs vs)[i * 15 + 3]? = some (.int .u64 (v.a : Int)) ∧ (rvs vs)[i * 15 + 4]? = some (.int .u64 (v.b : Int)) ∧ (rvs vs)[i * 15 + 5]? = some (.int .u32 (v.pg : Int)) ∧ (rvs vs)[i * 15 + 6]? = some (.int .u32 (v.rt : Int)) ∧ (rvs vs)[i * 15 + 7]? = some (.int .i64 v.o.k) ∧ (rvs vs)[i * 15 + 8]? = some (.int .i64 v.o.s) ∧ (rvs vs)[i * 15 + 9]? = some (.int .u32 (v.o.t : Int)) ∧ (rvs vs)[i * 15 + 10]? = some (.slice v.o.A v.o.m v.o.c) ∧ (rvs vs)[i * 15 + 11]? = some (.slice v.iA v.im v.ic) ∧ (rvs vs)[i * 15 + 12]? = some (.slice v.lA v.lm v.lc) ∧ (rvs vs)[i * 15 + 13]? = some (.slice v.dA v.dm v.dc) ∧ (rvs vs)[i * 15 + 14]? = some (.int .u32 (v.nx : Int)) := by
 have key := fun j (hj : j < 15) => flat_at (fun v => (rcs v).toList) 15 vs (fun _ _ => rfl) i v h j hj
 exact ⟨key 0 (by decide), key 1 (by decide), key 2 (by decide), key 3 (by decide), key 4 (by decide), key 5 (by decide), key 6 (by decide), key 7 (by decide), key 8 (by decide), key 9 (by decide), key 10 (by decide), key 11 (by decide), key 12 (by decide), key 13 (by decide), key 14 (by decide)⟩
def OwRV (w : World) (S T : Nat → Prop) (v : Value) (n : Nat) (l : List RV) : Prop :=
 w.ownsRow 0 31 15 v n (rvs l) ∧ (∀ x ∈ l, x.In w T) ∧ (∀ k, v.ownBlock = some k → S k) ∧ ∀ k, v.ownBlock = some k → ¬ T k
section
variable {w w' : World} {v : Value} {n : Nat} {l : List RV} {S T S' T' U : Nat → Prop}
set_option maxHeartbeats 2000000 in
theorem OwRV.len (h : OwRV w S T v n l) : l.length = n := by
 have := h.1.1
 rw [rvs_len] at this
 omega
set_option maxHeartbeats 2000000 in
theorem OwRV.nil_ (w : World) (S T : Nat → Prop) : OwRV w S T (.slice none 0 0) 0 [] := ⟨World.ownsRow_nil w 0 31 15, by simp, fun k hk => by simp [Value.ownBlock] at hk, fun k hk => by simp [Value.ownBlock] at hk⟩
set_option maxHeartbeats 2000000 in
theorem OwRV.mono (h : OwRV w S T v n l) (hS : ∀ b, b < w.heap.size → S b → S' b) (hT : ∀ b, b < w.heap.size → T b → T' b) (hn : ∀ k, v.ownBlock = some k → ¬ T' k) : OwRV w S' T' v n l :=
 ⟨h.1, fun x hx => (h.2.1 x hx).mono hT, fun k hk => hS k (h.1.lt k hk).2 (h.2.2.1 k hk), hn⟩
set_option maxHeartbeats 2000000 in
theorem OwRV.keep (h : OwRV w S T v n l) (hf : Fr w w' U) (hS : ∀ b, S b → ¬ U b) (hT : ∀ b, T b → ¬ U b) : OwRV w' S T v n l := by
 obtain ⟨⟨h1, h2⟩, h3, h4, h5⟩ := h
 refine ⟨⟨h1, ?_⟩, fun x hx => (h3 x hx).keep hf hT, h4, h5⟩
 rcases h2 with h2 | ⟨g, cap, cur, hv, hg, hh, r⟩
 ·exact Or.inl h2
 ·exact Or.inr ⟨g, cap, cur, hv, hg, (hf.block g (Blk.lt hh) (hS g (h4 g (by rw [hv]; rfl)))).trans hh, r⟩
set_option maxHeartbeats 2000000 in
theorem OwRV.fr (h : OwRV w S T v n l) (hf : Fr w w' No) : OwRV w' S T v n l := h.keep hf (fun _ _ hn => hn) fun _ _ hn => hn
set_option maxHeartbeats 2000000 in
theorem OwRV.alloc (h : OwRV w S T v n l) (o : Obj) : OwRV (w.alloc o) S T v n l := h.fr ((Fr.refl w No).alloc o)
set_option maxHeartbeats 2000000 in
theorem OwRV.reads (h : OwRV w S T v n l) (hn : n ≤ 140737488351232) : ∃ A c, v = .slice A n c ∧ n ≤ c ∧ c ≤ maxLen ∧ (A = none → c = 0) ∧ RVR w (fun b => S b ∨ T b) A n l := by
 have hlen := h.len
 obtain ⟨⟨h1, h2⟩, hl, hS, _⟩ := h
 have hl' : ∀ x ∈ l, x.In w (fun b => S b ∨ T b) := fun x hx => (hl x hx).mono fun b _ hb => Or.inr hb
 rcases h2 with ⟨rfl, h0⟩ | ⟨g, cap, cur, rfl, _, hg, hc, hm, hcur, htake⟩
 ·subst h0
  exact ⟨none, 0, rfl, Nat.le_refl _, Nat.zero_le _, fun _ => rfl, hlen, hl', by omega, fun h => absurd h (by omega)⟩
 ·refine ⟨_, _, rfl, hc, hm, (fun e => by cases e), hlen, hl', by omega, fun _ => ⟨g, 0, rfl, Blk.lt hg, Or.inl (hS g rfl), fun i x hi => ?_⟩⟩
  obtain ⟨a0, a1, a2, a3, a4, a5, a6, a7, a8, a9, a10, a11, a12, a13, a14⟩ := rvs_at l i x hi
  have hil : i < l.length := by
   rcases Nat.lt_or_ge i l.length with h | h
   ·exact h
   ·rw [List.getElem?_eq_none h] at hi; cases hi
  have key : ∀ j u, j < n * 15 → (rvs l)[j]? = some u → w.cell? ⟨g, j, none⟩ = some u := by
   intro j u hj hu
   rw [Blk.cell hg j]
   rw [← htake, List.getElem?_take_of_lt hj] at hu
   simpa using hu
  rw [Nat.zero_add]
  exact ⟨key _ _ (by omega) a0, key _ _ (by omega) a1, key _ _ (by omega) a2, key _ _ (by omega) a3, key _ _ (by omega) a4, key _ _ (by omega) a5, key _ _ (by omega) a6, key _ _ (by omega) a7, key _ _ (by omega) a8, key _ _ (by omega) a9, key _ _ (by omega) a10, key _ _ (by omega) a11, key _ _ (by omega) a12, key _ _ (by omega) a13, key _ _ (by omega) a14⟩
end
section
variable {w : World} {S T : Nat → Prop}
variable {ops : Array Oper} {rest : List Oper} {o : Oper} {a : Act} {Q : Exit → Act → World → Prop}
end
end Go.Proofs.YtdhgbkibbileiaaGreat
namespace Go.Proofs.YtdhgbkibbileiaaGreat
open Go.RowKit
def Alive (w : World) (e : Ending) (w' : World) : Prop := e = .returned (.bool true) ∧ Below w.heap.size w w'
end Go.Proofs.YtdhgbkibbileiaaGreat
