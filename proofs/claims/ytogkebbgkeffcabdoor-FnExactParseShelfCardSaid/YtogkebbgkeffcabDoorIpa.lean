/- What the library's Atoi, Cut and Split answer, as the program meets them. -/
import Derived.Test.YtogkebbgkeffcabDoorSpx
import Derived.Test.YtogkebbgkeffcabDoorShelf2
import Derived.Lib.AtoiAllCases
import Derived.Lib.AtoiErrMem
namespace Go.Proofs.YtogkebbgkeffcabDoor
open Go.RowKit Go.Joins
set_option linter.unusedSimpArgs false
set_option linter.unusedVariables false
namespace P
/-- what the library's variables hold -/
def Env (W : World) : Prop := (∃ m : Int, W.cell? ⟨0, 0, none⟩ = some (.int .i64 m)) ∧ (∃ t p, W.cell? ⟨1, 0, none⟩ = some (.iface t p)) ∧ (∃ t p, W.cell? ⟨2, 0, none⟩ = some (.iface t p))
theorem cell_lt {W : World} {b o : Nat} {v : Value} (h : W.cell? ⟨b, o, none⟩ = some v) : b < W.heap.size := World.block_lt_of_cell? _ _ h
theorem Env.on {W W' : World} (h : Env W) (hb : Below W.heap.size W W') : Env W' := by
  obtain ⟨⟨m, h1⟩, ⟨t, p, h2⟩, ⟨t', p', h3⟩⟩ := h
  exact ⟨⟨m, (hb.cell (p := ⟨0, 0, none⟩) (cell_lt h1)).trans h1⟩, ⟨t, p, (hb.cell (p := ⟨1, 0, none⟩) (cell_lt h2)).trans h2⟩, ⟨t', p', (hb.cell (p := ⟨2, 0, none⟩) (cell_lt h3)).trans h3⟩⟩
theorem below_dN {B : Nat} {a w : World} (h : Below B a w) (n : Nat) : Below B a (w.drewN n) := h.trans ⟨rfl, rfl, rfl, Nat.le_refl _, fun _ _ => rfl⟩
/-- what Atoi reads -/
def Reads (p : List UInt8) (v : Int) : Prop := (∀ u, Lib.atoiAll p = .ok u → v = u) ∧ (p = [] → v = 0)
theorem nil_not (u : Int) : Lib.atoiAll [] ≠ .ok u := by
  intro h
  simp [Lib.atoiAll] at h
theorem atoi_any (p : List UInt8) (hp : p.length ≤ 100) (W : World) (hE : Env W) :
    Calls Tryd.prog 24 #[.string ⟨p.toArray⟩] W fun e w' => ∃ (v : Int) (x : Value), e = .returned (.tuple #[.int .i64 v, x]) ∧ Reads p v ∧ Below W.heap.size W w' := by
  have hs : (⟨p.toArray⟩ : ByteArray).size = p.length := by show p.toArray.size = _; simp
  have hl : (⟨p.toArray⟩ : ByteArray).data.toList = p := by simp
  obtain ⟨_, ⟨t, q, h2⟩, ⟨t', q', h3⟩⟩ := hE
  rcases hc : Lib.atoiAll p with v | _ | _
  · refine (Tryd.strconv_Atoi_ok ⟨p.toArray⟩ (by omega) v (by rw [hl]; exact hc) W).mono ?_
    have HR := Lib.hid (show Reads p v from ⟨fun u hu => by rw [hc] at hu; cases hu; rfl, fun e => by subst e; exact absurd hc (nil_not v)⟩)
    rintro e w' ⟨rfl, rfl | ⟨t, rfl⟩⟩
    · exact ⟨_, _, rfl, HR.out, Below.refl _ _⟩
    · exact ⟨_, _, rfl, HR.out, Lib.bytesWorld_below _ _ _⟩
  · refine (Tryd.strconv_Atoi_syntax ⟨p.toArray⟩ (by omega) (by rw [hl]; exact hc) (.iface t q) W h2 (Or.inr ⟨t, q, rfl⟩)).mono ?_
    rintro e w' ⟨N, rfl, _, _, hb⟩
    exact ⟨_, _, rfl, ⟨(fun u hu => by rw [hc] at hu; cases hu), fun _ => rfl⟩, hb⟩
  · refine (Tryd.strconv_Atoi_range ⟨p.toArray⟩ (by omega) (by rw [hl]; exact hc) (.iface t' q') W h3 (Or.inr ⟨t', q', rfl⟩)).mono ?_
    rintro e w' ⟨N, rfl, _, _, hb⟩
    exact ⟨_, _, rfl, ⟨(fun u hu => by rw [hc] at hu; cases hu), fun e => by subst e; simp [Lib.atoiAll] at hc⟩, hb⟩
theorem cut_any (p : List UInt8) (c : UInt8) (hp : p.length ≤ 100) (W : World) (hE : Env W) :
    Calls Tryd.prog 23 #[.string ⟨p.toArray⟩, .string ⟨#[c]⟩] W fun e w' => e = .returned (.tuple #[.string ⟨(Lib.cut p [c]).1.toArray⟩, .string ⟨(Lib.cut p [c]).2.1.toArray⟩, .bool (Lib.cut p [c]).2.2]) ∧ Below W.heap.size W w' := by
  have hs : (⟨p.toArray⟩ : ByteArray).size = p.length := by show p.toArray.size = _; simp
  obtain ⟨⟨m, h1⟩, _⟩ := hE
  refine (Tryd.strings_Cut ⟨p.toArray⟩ ⟨#[c]⟩ m W (by omega) h1).mono ?_
  rintro e w' ⟨rfl, n, rfl⟩
  exact ⟨by simp, below_dN (Below.refl _ _) _⟩
theorem cut_le (p : List UInt8) (c : UInt8) : (Lib.cut p [c]).1.length ≤ p.length ∧ (Lib.cut p [c]).2.1.length ≤ p.length := by
  unfold Lib.cut
  split
  · exact ⟨by rw [List.length_take]; omega, by rw [List.length_drop]; omega⟩
  · exact ⟨Nat.le_refl _, by simp⟩
theorem strs_split (l : List UInt8) : ((Lib.splitB ⟨#[44]⟩ 0 (Lib.countB ⟨l.toArray⟩ ⟨#[44]⟩) ⟨l.toArray⟩).map Value.string) = P.strs (sp 44 l) ∧ Lib.countB ⟨l.toArray⟩ ⟨#[44]⟩ + 1 = (sp 44 l).length := by
  have hk := split_eq 44 (⟨l.toArray⟩ : ByteArray).size ⟨l.toArray⟩ (Nat.le_refl _)
  have e : (⟨l.toArray⟩ : ByteArray).data.toList = l := by simp
  rw [e] at hk
  constructor
  · rw [← hk]
    unfold P.strs
    rw [List.map_map]
    apply List.map_congr_left
    intro x _
    simp
  · rw [← hk, List.length_map]
    exact (Lib.splitB_all ⟨#[44]⟩ (Nat.le_refl 1) 0 _ _ rfl).symm
theorem split_any (l : List UInt8) (hl : l.length ≤ 100) (W : World) (hE : Env W) :
    Calls Tryd.prog 25 #[.string ⟨l.toArray⟩, .string ⟨#[44]⟩] W fun e w' => e = .returned (.slice (some ⟨W.heap.size, 0, none⟩) (sp 44 l).length (sp 44 l).length) ∧ w'.ownsRow W.heap.size 9 1 (.slice (some ⟨W.heap.size, 0, none⟩) (sp 44 l).length (sp 44 l).length) (sp 44 l).length (P.strs (sp 44 l)) ∧ Below W.heap.size W w' := by
  have hs : (⟨l.toArray⟩ : ByteArray).size = l.length := by show l.toArray.size = _; simp
  obtain ⟨⟨m, h1⟩, _⟩ := hE
  obtain ⟨k1, k2⟩ := strs_split l
  have hn := sp_le 44 l
  refine (Tryd.strings_Split ⟨l.toArray⟩ ⟨#[44]⟩ m W (by omega) h1 (Nat.le_refl 1)).mono ?_
  rintro e w' ⟨rfl, rfl⟩
  rw [k2, k1]
  refine ⟨rfl, ?_, (Below.refl _ _).alloc (Nat.le_refl _) _⟩
  have := World.ownsRow_lit (base := W.heap.size) (e := 9) (size := 1) W (P.strs (sp 44 l)).toArray (sp 44 l).length (Nat.le_refl _) (by unfold maxLen; omega) (by simp [P.strs])
  simpa using this
end P
end Go.Proofs.YtogkebbgkeffcabDoor
