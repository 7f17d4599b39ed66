/- A tree of keys in plain words: a node has rising entries, and one node more below it, or none; all ends on one level. What is written side by side is the row of all entries; parting a node, lending, and joining leave that row as it is. -/
import Derived.Test.YtlefcjgemojhpabTreeNum
namespace Go.Proofs.Ytlefcjgemojhpab.PTree
set_option maxRecDepth 100000
inductive Nd where
  | mk (es : List En) (bs : List Nd)
namespace Nd
def es : Nd → List En | mk e _ => e
def bs : Nd → List Nd | mk _ b => b
@[simp] theorem es_mk (e : List En) (b : List Nd) : (mk e b).es = e := rfl
@[simp] theorem bs_mk (e : List En) (b : List Nd) : (mk e b).bs = b := rfl
theorem eta (n : Nd) : n = mk n.es n.bs := by cases n; rfl
end Nd
/-- Rising. -/
abbrev Up (L : List En) : Prop := L.Pairwise fun x y => x.k < y.k
def weave : List En → List (List En) → List En
  | _, [] => []
  | [], l :: _ => l
  | e :: es, l :: ls => l ++ e :: weave es ls
def pre : List En → List (List En) → List En
  | e :: A, l :: LA => l ++ e :: pre A LA
  | _, _ => []
def post : List En → List (List En) → List En
  | e :: B, l :: LB => e :: l ++ post B LB
  | _, _ => []
theorem weave_post : ∀ (B : List En) (l : List En) (LB : List (List En)), B.length = LB.length → weave B (l :: LB) = l ++ post B LB
  | [], l, [], _ => by simp [weave, post]
  | e :: B, l, m :: LB, h => by
    rw [weave, weave_post B m LB (by simpa using h), post]
    simp
theorem weave_app : ∀ (A : List En) (LA : List (List En)) (B : List En) (LB : List (List En)), A.length = LA.length → weave (A ++ B) (LA ++ LB) = pre A LA ++ weave B LB
  | [], [], B, LB, _ => by simp [pre]
  | e :: A, l :: LA, B, LB, h => by
    show l ++ e :: weave (A ++ B) (LA ++ LB) = (l ++ e :: pre A LA) ++ weave B LB
    rw [weave_app A LA B LB (by simpa using h)]
    simp
theorem pre_lt {k : Int} : ∀ (A : List En) (LA : List (List En)), A.length = LA.length → Up (pre A LA) → (∀ e ∈ A, e.k < k) → ∀ x ∈ pre A LA, x.k < k
  | [], [], _, _, _, x, hx => by simp [pre] at hx
  | e :: A, l :: LA, h, hu, ha, x, hx => by
    simp only [pre] at hx hu
    have he := ha e (by simp)
    rw [Up, List.pairwise_append] at hu
    rcases List.mem_append.1 hx with hx | hx
    · have := hu.2.2 x hx e (by simp); omega
    · rcases List.mem_cons.1 hx with rfl | hx
      · exact he
      · exact pre_lt A LA (by simpa using h) (List.pairwise_cons.1 hu.2.1).2 (fun y hy => ha y (by simp [hy])) x hx
theorem post_ge {k : Int} : ∀ (A : List En) (LA : List (List En)), A.length = LA.length → Up (post A LA) → (∀ e ∈ A, k ≤ e.k) → ∀ x ∈ post A LA, k ≤ x.k
  | [], [], _, _, _, x, hx => by simp [post] at hx
  | e :: A, l :: LA, h, hu, ha, x, hx => by
    simp only [post] at hx hu
    have he := ha e (by simp)
    rw [Up, List.pairwise_append] at hu
    rcases List.mem_append.1 hx with hx | hx
    · rcases List.mem_cons.1 hx with rfl | hx
      · exact he
      · have := (List.pairwise_cons.1 hu.1).1 x hx; omega
    · exact post_ge A LA (by simpa using h) hu.2.1 (fun y hy => ha y (by simp [hy])) x hx
theorem mem_pre : ∀ (A : List En) (LA : List (List En)), A.length = LA.length → ∀ e ∈ A, e ∈ pre A LA
  | [], _, _, e, he => by simp at he
  | a :: A, l :: LA, h, e, he => by
    simp only [pre]
    rcases List.mem_cons.1 he with rfl | he
    · simp
    · have := mem_pre A LA (by simpa using h) e he
      simp [this]
theorem mem_post : ∀ (A : List En) (LA : List (List En)), A.length = LA.length → ∀ e ∈ A, e ∈ post A LA
  | [], _, _, e, he => by simp at he
  | a :: A, l :: LA, h, e, he => by
    simp only [post]
    rcases List.mem_cons.1 he with rfl | he
    · simp
    · have := mem_post A LA (by simpa using h) e he
      simp [this]
/-- All entries below, in their order. -/
def lst : Nat → Nd → List En
  | 0, n => n.es
  | h + 1, n => weave n.es (n.bs.map (lst h))
/-- What stands below a node, on h levels. -/
def Shape : Nat → Nd → Prop
  | 0, n => n.bs = []
  | h + 1, n => n.bs.length = n.es.length + 1 ∧ ∀ b ∈ n.bs, 2 ≤ b.es.length ∧ b.es.length ≤ 4 ∧ Shape h b
/-- A node below another: it may have one key too many or too few for a while. -/
theorem lst_mid {h : Nat} {E1 : List En} {B1 : List Nd} (he : E1.length = B1.length) (EM E2 : List En) (BM B2 : List Nd) (hm : BM.length = EM.length + 1) (h2 : E2.length = B2.length) :
    lst (h + 1) ⟨E1 ++ (EM ++ E2), B1 ++ (BM ++ B2)⟩ = pre E1 (B1.map (lst h)) ++ (lst (h + 1) ⟨EM, BM⟩ ++ post E2 (B2.map (lst h))) := by
  show weave (E1 ++ (EM ++ E2)) ((B1 ++ (BM ++ B2)).map (lst h)) = _
  rw [List.map_append, weave_app _ _ _ _ (by simpa using he), List.map_append]
  congr 1
  show _ = weave EM (BM.map (lst h)) ++ _
  cases hb : BM.reverse with
  | nil => rw [List.reverse_eq_nil_iff.1 hb] at hm; simp at hm
  | cons c C =>
    have hC : BM = C.reverse ++ [c] := by
      have := congrArg List.reverse hb
      simpa using this
    have hl : EM.length = C.reverse.length := by rw [hC] at hm; simp at hm; simpa using hm.symm
    rw [hC, List.map_append]
    have e1 := weave_app EM (C.reverse.map (lst h)) [] ([c].map (lst h)) (by simpa using hl)
    rw [List.append_nil] at e1
    rw [e1]
    have e2 := weave_app EM (C.reverse.map (lst h)) E2 ([c].map (lst h) ++ B2.map (lst h)) (by simpa using hl)
    rw [List.append_assoc, e2]
    rw [show [c].map (lst h) ++ B2.map (lst h) = lst h c :: B2.map (lst h) from rfl, weave_post _ _ _ (by simpa using h2)]
    simp [weave]
/-- One child, and what stands beside it. -/
theorem lst_one {h : Nat} {E1 : List En} {B1 : List Nd} (he : E1.length = B1.length) (E2 : List En) (b : Nd) (B2 : List Nd) (h2 : E2.length = B2.length) :
    lst (h + 1) ⟨E1 ++ E2, B1 ++ b :: B2⟩ = pre E1 (B1.map (lst h)) ++ (lst h b ++ post E2 (B2.map (lst h))) := lst_mid he [] E2 [b] B2 rfl h2
theorem lst_two {h : Nat} {E1 : List En} {B1 : List Nd} (he : E1.length = B1.length) (s : En) (E2 : List En) (l r : Nd) (B2 : List Nd) (h2 : E2.length = B2.length) :
    lst (h + 1) ⟨E1 ++ s :: E2, B1 ++ l :: r :: B2⟩ = pre E1 (B1.map (lst h)) ++ (lst h l ++ s :: lst h r ++ post E2 (B2.map (lst h))) := lst_mid he [s] E2 [l, r] B2 rfl h2
theorem lst_cons {h : Nat} (s : En) (R : List En) (c : Nd) (C : List Nd) : lst (h + 1) ⟨s :: R, c :: C⟩ = lst h c ++ s :: lst (h + 1) ⟨R, C⟩ := rfl
/-- A node cut at one of its keys. -/
theorem lst_cut {h : Nat} (L : List En) (s : En) (R : List En) (LB RB : List Nd) (hl : LB.length = L.length + 1) (hr : RB.length = R.length + 1) :
    lst (h + 1) ⟨L ++ s :: R, LB ++ RB⟩ = lst (h + 1) ⟨L, LB⟩ ++ s :: lst (h + 1) ⟨R, RB⟩ := by
  cases RB with
  | nil => simp at hr
  | cons c C =>
    have e := lst_mid (h := h) (E1 := []) (B1 := []) rfl L (s :: R) LB (c :: C) hl (by simpa using hr.symm)
    simp only [List.nil_append, pre] at e
    rw [e]
    congr 1
    show post (s :: R) (lst h c :: C.map (lst h)) = s :: weave R (lst h c :: C.map (lst h))
    rw [weave_post _ _ _ (by simpa using hr.symm)]
    rfl
/-- What is put, over what was there. -/
def up (L : List En) (e : En) : List En := L.filter (fun x => decide (x.k < e.k)) ++ e :: L.filter (fun x => decide (e.k < x.k))
def out (L : List En) (k : Int) : List En := L.filter (fun x => decide (x.k ≠ k))
theorem filter_all {p : En → Bool} {L : List En} (h : ∀ x ∈ L, p x = true) : L.filter p = L := List.filter_eq_self.2 h
theorem filter_none {p : En → Bool} {L : List En} (h : ∀ x ∈ L, p x = false) : L.filter p = [] := List.filter_eq_nil_iff.2 fun x hx => by simp [h x hx]
theorem up_mid {P M Q : List En} {e : En} (hP : ∀ x ∈ P, x.k < e.k) (hQ : ∀ x ∈ Q, e.k < x.k) : up (P ++ (M ++ Q)) e = P ++ (up M e ++ Q) := by
  unfold up
  simp only [List.filter_append]
  rw [filter_all (L := P) (by intro x hx; simpa using hP x hx), filter_none (L := Q) (p := fun x => decide (x.k < e.k)) (by intro x hx; have := hQ x hx; simp; omega),
    filter_none (L := P) (p := fun x => decide (e.k < x.k)) (by intro x hx; have := hP x hx; simp; omega), filter_all (L := Q) (by intro x hx; simpa using hQ x hx)]
  simp
theorem out_mid {P M Q : List En} {k : Int} (hP : ∀ x ∈ P, x.k < k) (hQ : ∀ x ∈ Q, k < x.k) : out (P ++ (M ++ Q)) k = P ++ (out M k ++ Q) := by
  unfold out
  simp only [List.filter_append]
  rw [filter_all (L := P) (by intro x hx; have := hP x hx; simp; omega), filter_all (L := Q) (by intro x hx; have := hQ x hx; simp; omega)]
theorem up_nil (e : En) : up [] e = [e] := rfl
theorem up_rises {L : List En} {e : En} (h : Up L) : Up (up L e) := by
  unfold up
  rw [Up, List.pairwise_append]
  refine ⟨h.filter _, List.pairwise_cons.2 ⟨fun x hx => by simpa using (List.mem_filter.1 hx).2, h.filter _⟩, fun x hx y hy => ?_⟩
  have h1 : x.k < e.k := by simpa using (List.mem_filter.1 hx).2
  rcases List.mem_cons.1 hy with rfl | hy
  · exact h1
  · have h2 : e.k < y.k := by simpa using (List.mem_filter.1 hy).2
    omega
theorem out_rises {L : List En} {k : Int} (h : Up L) : Up (out L k) := h.filter _
/-- The place of a key. -/
def pos (L : List En) (k : Int) : Nat := (L.takeWhile fun x => decide (x.k < k)).length
theorem pos_le (L : List En) (k : Int) : pos L k ≤ L.length := by
  unfold pos
  exact (List.takeWhile_prefix _).length_le
theorem while_mem {p : En → Bool} : ∀ {L : List En} {x : En}, x ∈ L.takeWhile p → p x = true
  | [], x, h => by simp at h
  | e :: L, x, h => by
    rw [List.takeWhile_cons] at h
    split at h
    · rename_i he
      rcases List.mem_cons.1 h with rfl | h
      · exact he
      · exact while_mem h
    · simp at h
theorem pos_take (L : List En) (k : Int) : ∀ x ∈ L.take (pos L k), x.k < k := by
  unfold pos
  rw [← (List.prefix_iff_eq_take).1 (List.takeWhile_prefix (fun x : En => decide (x.k < k)) (l := L))]
  intro x hx
  simpa using while_mem hx
theorem drop_while (L : List En) (k : Int) : L.drop (pos L k) = L.dropWhile fun x => decide (x.k < k) := by
  have h := List.takeWhile_append_dropWhile (p := fun x : En => decide (x.k < k)) (l := L)
  unfold pos
  conv => lhs; arg 2; rw [← h]
  rw [List.drop_left]
theorem pos_drop {L : List En} (hu : Up L) (k : Int) : ∀ x ∈ L.drop (pos L k), k ≤ x.k := by
  rw [drop_while]
  induction L with
  | nil => intro x hx; simp at hx
  | cons e L ih =>
    intro x hx
    rw [List.dropWhile_cons] at hx
    split at hx
    · exact ih (List.pairwise_cons.1 hu).2 x hx
    · rename_i hn
      have hn : ¬ e.k < k := by simpa using hn
      rcases List.mem_cons.1 hx with rfl | hx
      · omega
      · have := (List.pairwise_cons.1 hu).1 x hx; omega
theorem pos_uniq {A B : List En} {k : Int} (hA : ∀ x ∈ A, x.k < k) (hB : ∀ x ∈ B.head?, k ≤ x.k) : pos (A ++ B) k = A.length := by
  unfold pos
  rw [List.takeWhile_append_of_pos (by intro x hx; simpa using hA x hx), List.length_append]
  cases B with
  | nil => simp
  | cons b B =>
    have := hB b (by simp)
    rw [List.takeWhile_cons_of_neg (by simp; omega)]
    simp
/-- The key is there. -/
def has (L : List En) (k : Int) : Bool := L.any fun x => decide (x.k = k)
end Go.Proofs.Ytlefcjgemojhpab.PTree
