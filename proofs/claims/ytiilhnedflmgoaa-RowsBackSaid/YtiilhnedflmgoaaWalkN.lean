/-
  THE WALK OF read.
-/
import Derived.Test.YtiilhnedflmgoaaWalkM
import Derived.Test.YtiilhnedflmgoaaRMath2
namespace Go.Proofs.Ytiilhnedflmgoaa
open Go.RowKit Go.Sort

def V.cells (v : V) : Value := .agg #[.int .i64 v.k, .int .i64 v.n, .string v.s]
def Par (w : World) (S : Nat → Prop) (g : Nat) (ok : Bool) (l : List Nat) (k : Int) (e : Ending) (w' : World) : Prop :=
  e = .returned (.agg #[.int .i64 (rdP k ok l).1.k, .int .i64 (rdP k ok l).1.n, .string (rdP k ok l).1.s]) ∧ Rd w' S (some g) (rdP k ok l).2.1 (rdP k ok l).2.2 ∧ Fr w w' S
theorem par0 (w : World) (S : Nat → Prop) (g : Nat) (ok : Bool) (l : List Nat) (h : Rd w S (some g) ok l) : Calls Try.prog 41 #[ptr (some g)] w (Par w S g ok l 0) := (rnull_any w S g ok l h).mono fun _ _ hh => hh
theorem par1 (w : World) (S : Nat → Prop) (g : Nat) (ok : Bool) (l : List Nat) (h : Rd w S (some g) ok l) : Calls Try.prog 44 #[ptr (some g)] w (Par w S g ok l 1) := (rint1_any w S g ok l h).mono fun _ _ hh => hh
theorem par2 (w : World) (S : Nat → Prop) (g : Nat) (ok : Bool) (l : List Nat) (h : Rd w S (some g) ok l) : Calls Try.prog 48 #[ptr (some g)] w (Par w S g ok l 2) := (rtext1_any w S g ok l h).mono fun _ _ hh => hh
theorem par3 (w : World) (S : Nat → Prop) (g : Nat) (ok : Bool) (l : List Nat) (h : Rd w S (some g) ok l) : Calls Try.prog 52 #[ptr (some g)] w (Par w S g ok l 3) := (rbool1_any w S g ok l h).mono fun _ _ hh => hh

theorem vcs_rep (n : Nat) : vcs (List.replicate n v0) = (madeCells #[.int .i64 0, .int .i64 0, .string ⟨#[]⟩] (n * 3)).toList := by
  apply List.ext_getElem?
  intro j
  by_cases hj : j < n * 3
  · have hv : (List.replicate n v0)[j / 3]? = some v0 := by rw [List.getElem?_replicate, if_pos (by omega)]
    obtain ⟨a, b, c⟩ := vcs_at _ _ _ hv
    have hr : j % 3 = 0 ∨ j % 3 = 1 ∨ j % 3 = 2 := by omega
    rcases hr with hr | hr | hr
    · rw [show j / 3 * 3 = j by omega] at a
      rw [a]
      simp [madeCells, hj, hr, v0]
    · rw [show j / 3 * 3 + 1 = j by omega] at b
      rw [b]
      simp [madeCells, hj, hr, v0]
    · rw [show j / 3 * 3 + 2 = j by omega] at c
      rw [c]
      simp [madeCells, hj, hr, v0]
  · rw [List.getElem?_eq_none (by rw [vcs_len]; simp; omega), List.getElem?_eq_none (by simp [madeCells]; omega)]
set_option maxRecDepth 100000 in
theorem run_mkV (n : Nat) (hn : n ≤ 1000) (u : World) : (Instr.makeSlice 28 (.int .i64 (n : Int)) (.int .i64 (n : Int))).run Try.prog u =
    .ok (.slice (some ⟨u.heap.size, 0, none⟩) n n) (u.alloc (.cells (vcs (List.replicate n v0)).toArray 40)) := by
  obtain ⟨i0, hi, hz0, hz1, hz2⟩ := info_parts info40
  have h := run_make (P := Try.prog) u 28 40 i0 (.agg #[.int .i64 0, .int .i64 0, .string ⟨#[]⟩]) Try.underlying28 hi hz0 .i64 .i64 (n : Int) (n : Int) (by omega) (Int.le_refl _) (by rw [hz2]; omega) (by omega)
  rw [vcs_rep]
  simpa [hz1, Value.cells] using h
theorem v0_ok : VOk v0 := ⟨by simp [N64, v0], Nat.zero_le _⟩
set_option maxRecDepth 100000 in
theorem OwV.zeros (w : World) (S : Nat → Prop) (n : Nat) (hn : n ≤ 1000) (hS : S w.heap.size) : OwV (w.alloc (.cells (vcs (List.replicate n v0)).toArray 40)) S (.slice (some ⟨w.heap.size, 0, none⟩) n n) n (List.replicate n v0) := by
  refine ⟨⟨by rw [vcs_len]; simp, Or.inr ⟨w.heap.size, n, _, rfl, Nat.zero_le _, heap_alloc_new w _, Nat.le_refl _, by simp only [maxLen]; omega, by simp [vcs_len], ?_⟩⟩, ?_, fun k hk => ?_⟩
  · rw [List.take_of_length_le]
    simp [vcs_len]
  · intro x hx
    rw [List.eq_of_mem_replicate hx]
    exact v0_ok
  · simp [Value.ownBlock] at hk
    subst hk
    exact hS

/-- what read's loop carries on: the reader, the row, the forms, the marks. (lo: all blocks from there on are this call's own; R: the reader's blocks, all below lo) -/
structure Lx (w wr : World) (R : Nat → Prop) (lo : Nat) (g gr gb n : Nat) (Am : Option Addr) (M : Nat) (m : List Nat) (ok : Bool) (l : List Nat) (row : List V) : Prop where
  rd : Rd wr R (some g) ok l
  row_ : OwV wr (fun b => b = gr) (.slice (some ⟨gr, 0, none⟩) n n) n row
  fm : Blk wr gb 54 formsA
  mk_ : RB wr (fun b => lo ≤ b ∧ b ≠ gr ∧ b ≠ gb) Am M m
  fr : Fr w wr R
  rlt : ∀ b, R b → b < lo
  hr : lo ≤ gr
  hb : lo ≤ gb
  ne : gr ≠ gb
  hw : w.heap.size ≤ lo
section
variable {w wr w1 : World} {R : Nat → Prop} {lo g gr gb n : Nat} {Am : Option Addr} {M : Nat} {m : List Nat} {ok : Bool} {l : List Nat} {row : List V}
theorem Lx.below (h : Lx w wr R lo g gr gb n Am M m ok l row) (hb : Below wr.heap.size wr w1) : Lx w w1 R lo g gr gb n Am M m ok l row := by
  have hf := Fr.of_below hb (fun _ => False)
  refine ⟨h.rd.keep hf (fun _ _ hh => hh.elim), h.row_.keep hf (fun _ _ hh => hh.elim), h.fm.keep hf (fun hh => hh.elim), h.mk_.keep hf (fun _ _ hh => hh.elim), ?_, h.rlt, h.hr, h.hb, h.ne, h.hw⟩
  exact Fr.trans h.fr hf fun b hh => hh.elim
theorem Lx.alloc (h : Lx w wr R lo g gr gb n Am M m ok l row) (o : Obj) : Lx w (wr.alloc o) R lo g gr gb n Am M m ok l row := h.below ((Below.refl _ _).alloc (Nat.le_refl _) _)
theorem Lx.drew (h : Lx w wr R lo g gr gb n Am M m ok l row) : Lx w wr.drew R lo g gr gb n Am M m ok l row := ⟨h.rd.drew, h.row_.drew, h.fm.drew, h.mk_.drew, h.fr.drew, h.rlt, h.hr, h.hb, h.ne, h.hw⟩
/-- the reader has read -/
theorem Lx.read {ok' : Bool} {l' : List Nat} (h : Lx w wr R lo g gr gb n Am M m ok l row) (hr : Rd w1 R (some g) ok' l') (hf : Fr wr w1 R) : Lx w w1 R lo g gr gb n Am M m ok' l' row := by
  have h1 := h.hr
  have h2 := h.hb
  refine ⟨hr, h.row_.keep hf (fun b e hR => ?_), h.fm.keep hf (fun hR => ?_), h.mk_.keep hf (fun b e hR => ?_), h.fr.same hf, h.rlt, h.hr, h.hb, h.ne, h.hw⟩
  · have := h.rlt b hR; omega
  · have := h.rlt gb hR; omega
  · have := h.rlt b hR; omega
/-- a value is put into the row -/
theorem Lx.put (h : Lx w wr R lo g gr gb n Am M m ok l row) {j : Nat} {x : V} (hs : OwV (((wr.setCell ⟨gr, j * 3, none⟩ (.int .i64 x.k)).setCell ⟨gr, j * 3 + 1, none⟩ (.int .i64 x.n)).setCell ⟨gr, j * 3 + 2, none⟩ (.string x.s)) (fun b => b = gr) (.slice (some ⟨gr, 0, none⟩) n n) n (row.set j x)) :
    Lx w (((wr.setCell ⟨gr, j * 3, none⟩ (.int .i64 x.k)).setCell ⟨gr, j * 3 + 1, none⟩ (.int .i64 x.n)).setCell ⟨gr, j * 3 + 2, none⟩ (.string x.s)) R lo g gr gb n Am M m ok l (row.set j x) := by
  have h1 := h.hr
  have hw := h.hw
  have hf : Fr wr (((wr.setCell ⟨gr, j * 3, none⟩ (.int .i64 x.k)).setCell ⟨gr, j * 3 + 1, none⟩ (.int .i64 x.n)).setCell ⟨gr, j * 3 + 2, none⟩ (.string x.s)) (fun b => b = gr) :=
    (((Fr.refl wr (fun b => b = gr)).setCell (p := ⟨gr, j * 3, none⟩) (Or.inl rfl) _).setCell (p := ⟨gr, j * 3 + 1, none⟩) (Or.inl rfl) _).setCell (p := ⟨gr, j * 3 + 2, none⟩) (Or.inl rfl) _
  refine ⟨h.rd.keep hf (fun b hR e => ?_), hs, h.fm.keep hf (fun e => h.ne e.symm), h.mk_.keep hf (fun b e1 e2 => e1.2.1 e2), ?_, h.rlt, h.hr, h.hb, h.ne, h.hw⟩
  · have := h.rlt b hR; omega
  · exact Fr.trans h.fr hf fun b e => Or.inr (by omega)
theorem Lx.cells (h : Lx w wr R lo g gr gb n Am M m ok l row) : wr.cell? ⟨gb, 1, none⟩ = some (.func (.func 41) #[] #[]) ∧ wr.cell? ⟨gb, 3, none⟩ = some (.func (.func 44) #[] #[]) ∧ wr.cell? ⟨gb, 5, none⟩ = some (.func (.func 48) #[] #[]) ∧ wr.cell? ⟨gb, 7, none⟩ = some (.func (.func 52) #[] #[]) :=
  ⟨h.fm.cell 1, h.fm.cell 3, h.fm.cell 5, h.fm.cell 7⟩
end
end Go.Proofs.Ytiilhnedflmgoaa
