/- Sheets moved, reversed, mirrored and cut: the model and the program give one answer. -/
import Derived.Test.YtjjohenpapfabaaCutS
namespace Go.Proofs.Ytjjohenpapfabaa
open Go.RowKit Go.Sort
set_option linter.unusedVariables false
set_option linter.unusedSimpArgs false

theorem same_ret {B : World} {l m : List Nt} {a b : Bool} {e : Ending} {w' : World} (h : RetScore B l a e w') (ha : a = b) (hl : (if a = true then l else []) = (if b = true then m else [])) : RetScore B m b e w' := by
  obtain ⟨v, he, ho, hb⟩ := h
  subst ha
  exact ⟨v, he, by rw [← hl]; exact ho, hb⟩
theorem chg_all {g : Nt → Nt} {l : List Nt} (hg : goodB l = true) (h : ∀ x : Nt, noteN x = true → (g x).2.1 < (g x).2.2) : chgL g l = l.map g :=
  chgL_all g l fun x hx => h x (((goodB_iff l).1 hg).valid x hx)

theorem moveSheet_both (l : List Nt) (b : Int) (hbig : l.length ≤ 1048576) : ∃ (G : List Nt) (ok : Bool), G.length ≤ 1048576 ∧
    (∀ (A : Nat) (c : Nat) (W : World), l.length ≤ c → c ≤ 9223372036854775807 → RA W (some ⟨A, 0, none⟩) l → Calls Try.prog 45 #[.slice (some ⟨A, 0, none⟩) l.length c, .int .i64 b] W fun e W' => ∃ v, e = .returned (.tuple #[v, .bool ok]) ∧ Own W' W.heap.size 34 v G ∧ Below W.heap.size W W') ∧
    (∀ (A : Nat) (c : Nat) (W : World), l.length ≤ c → c ≤ 9223372036854775807 → RA W (some ⟨A, 0, none⟩) l → Calls Try.prog 46 #[.slice (some ⟨A, 0, none⟩) l.length c, .int .i64 b] W fun e W' => ∃ v, e = .returned (.tuple #[v, .bool ok]) ∧ Own W' W.heap.size 34 v G ∧ Below W.heap.size W W') := by
  refine ⟨if (goodB l && (inR b (-2000) 2000 && goodB (canon (chgL (moveN b) l)))) = true then canon (chgL (moveN b) l) else [], goodB l && (inR b (-2000) 2000 && goodB (canon (chgL (moveN b) l))), ?_, fun A c W h1 h2 hA => ?_, fun A c W h1 h2 hA => implMove_any A l c b W hbig hA⟩
  · split
    · rw [canon_length]
      have := chgL_length (moveN b) l
      omega
    · simp
  · refine (specMove_any _ l c b W hbig h1 h2 hA).mono fun e W' h => ?_
    cases hgd : goodB l with
    | false =>
      rw [hgd] at h
      exact h
    | true =>
      have e1 : chgL (moveN b) l = l.map (moveN b) := chg_all hgd (fun x hx => by have := (noteN_iff x).1 hx; simp only [moveN]; omega)
      rw [hgd] at h
      rw [e1]
      obtain ⟨c1, c2⟩ := canon_same (moved_srt b ((goodB_iff l).1 hgd).srt)
      rw [c1] at c2 ⊢
      cases hin : inR b (-2000) 2000 with
      | false => rw [hin] at h; exact h
      | true =>
        rw [hin] at h
        simp only [Bool.true_and] at h ⊢
        rw [c2]
        exact h

theorem reverseSheet_both (l : List Nt) (m : Int) (hbig : l.length ≤ 1048576) : ∃ (G : List Nt) (ok : Bool), G.length ≤ 1048576 ∧
    (∀ (A : Nat) (c : Nat) (W : World), l.length ≤ c → c ≤ 9223372036854775807 → RA W (some ⟨A, 0, none⟩) l → Calls Try.prog 47 #[.slice (some ⟨A, 0, none⟩) l.length c, .int .i64 m] W fun e W' => ∃ v, e = .returned (.tuple #[v, .bool ok]) ∧ Own W' W.heap.size 34 v G ∧ Below W.heap.size W W') ∧
    (∀ (A : Nat) (c : Nat) (W : World), l.length ≤ c → c ≤ 9223372036854775807 → RA W (some ⟨A, 0, none⟩) l → Calls Try.prog 48 #[.slice (some ⟨A, 0, none⟩) l.length c, .int .i64 m] W fun e W' => ∃ v, e = .returned (.tuple #[v, .bool ok]) ∧ Own W' W.heap.size 34 v G ∧ Below W.heap.size W W') := by
  refine ⟨if (goodB l && (inR m (endOf l) 2000 && goodB (canon (chgL (revN m) l)))) = true then canon (chgL (revN m) l) else [], goodB l && (inR m (endOf l) 2000 && goodB (canon (chgL (revN m) l))), ?_, fun A c W h1 h2 hA => ?_, fun A c W h1 h2 hA => implReverse_any A l c m W hbig hA⟩
  · split
    · rw [canon_length]
      have := chgL_length (revN m) l
      omega
    · simp
  · refine (specReverse_any _ l c m W hbig h1 h2 hA).mono fun e W' h => ?_
    cases hgd : goodB l with
    | false =>
      rw [hgd] at h
      exact h
    | true =>
      have e1 : chgL (revN m) l = l.map (revN m) := chg_all hgd (fun x hx => by have := (noteN_iff x).1 hx; simp only [revN]; omega)
      rw [hgd] at h
      rw [e1]
      exact h

theorem mirrorTracks_both (l : List Nt)  (hbig : l.length ≤ 1048576) : ∃ (G : List Nt) (ok : Bool), G.length ≤ 1048576 ∧
    (∀ (A : Nat) (c : Nat) (W : World), l.length ≤ c → c ≤ 9223372036854775807 → RA W (some ⟨A, 0, none⟩) l → Calls Try.prog 49 #[.slice (some ⟨A, 0, none⟩) l.length c] W fun e W' => ∃ v, e = .returned (.tuple #[v, .bool ok]) ∧ Own W' W.heap.size 34 v G ∧ Below W.heap.size W W') ∧
    (∀ (A : Nat) (c : Nat) (W : World), l.length ≤ c → c ≤ 9223372036854775807 → RA W (some ⟨A, 0, none⟩) l → Calls Try.prog 50 #[.slice (some ⟨A, 0, none⟩) l.length c] W fun e W' => ∃ v, e = .returned (.tuple #[v, .bool ok]) ∧ Own W' W.heap.size 34 v G ∧ Below W.heap.size W W') := by
  refine ⟨if (goodB l && (true && goodB (canon (chgL mirN l)))) = true then canon (chgL mirN l) else [], goodB l && (true && goodB (canon (chgL mirN l))), ?_, fun A c W h1 h2 hA => ?_, fun A c W h1 h2 hA => implMirror_any A l c  W hbig hA⟩
  · split
    · rw [canon_length]
      have := chgL_length mirN l
      omega
    · simp
  · refine (specMirror_any _ l c  W hbig h1 h2 hA).mono fun e W' h => ?_
    cases hgd : goodB l with
    | false =>
      rw [hgd] at h
      exact h
    | true =>
      have e1 : chgL mirN l = l.map mirN := chg_all hgd (fun x hx => by have := (noteN_iff x).1 hx; simp only [mirN]; omega)
      rw [hgd] at h
      rw [e1]
      exact h

theorem cutSheet_both (l : List Nt) (f t : Int) (hbig : l.length ≤ 1048576) : ∃ (G : List Nt) (ok : Bool), G.length ≤ 1048576 ∧
    (∀ (A : Nat) (c : Nat) (W : World), l.length ≤ c → c ≤ 9223372036854775807 → RA W (some ⟨A, 0, none⟩) l → Calls Try.prog 51 #[.slice (some ⟨A, 0, none⟩) l.length c, .int .i64 f, .int .i64 t] W fun e W' => ∃ v, e = .returned (.tuple #[v, .bool ok]) ∧ Own W' W.heap.size 34 v G ∧ Below W.heap.size W W') ∧
    (∀ (A : Nat) (c : Nat) (W : World), l.length ≤ c → c ≤ 9223372036854775807 → RA W (some ⟨A, 0, none⟩) l → Calls Try.prog 52 #[.slice (some ⟨A, 0, none⟩) l.length c, .int .i64 f, .int .i64 t] W fun e W' => ∃ v, e = .returned (.tuple #[v, .bool ok]) ∧ Own W' W.heap.size 34 v G ∧ Below W.heap.size W W') := by
  refine ⟨if (goodB l && ((inR f 0 1999 && inR t (f + 1) 2000) && goodB (canon (chgL (cutN f t) l)))) = true then canon (chgL (cutN f t) l) else [], goodB l && ((inR f 0 1999 && inR t (f + 1) 2000) && goodB (canon (chgL (cutN f t) l))), ?_, fun A c W h1 h2 hA => ?_, fun A c W h1 h2 hA => implCut_any A l c f t W hbig hA⟩
  · split
    · rw [canon_length]
      have := chgL_length (cutN f t) l
      omega
    · simp
  · exact specCut_any _ l c f t W hbig h1 h2 hA
end Go.Proofs.Ytjjohenpapfabaa
