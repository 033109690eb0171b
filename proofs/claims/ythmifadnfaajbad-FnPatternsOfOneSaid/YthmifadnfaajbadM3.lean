import Derived.Test.YthmifadnfaajbadM2
namespace Go.Proofs.Ythmifadnfaajbad

-- shops (plain): m the machine, p the time of a job's step
def setN {α : Type} (f : Nat → α) (j : Nat) (v : α) : Nat → α := fun i => if i = j then v else f i
theorem setN_at {α : Type} (f : Nat → α) (j : Nat) (v : α) : setN f j v j = v := if_pos rfl
theorem setN_ne {α : Type} (f : Nat → α) {i j : Nat} (v : α) (h : i ≠ j) : setN f j v i = f i := if_neg h
/-- what is known behind some turns: the next step of each job, when steps began, when jobs and machines are free, when all is done, and the steps done, in their order -/
structure ShopS where
  nx : Nat → Nat
  b : Nat → Nat → Int
  rd : Nat → Int
  fr : Nat → Int
  all : Int
  done : List (Nat × Nat)
def shop0 : ShopS := ⟨fun _ => 0, fun _ _ => 0, fun _ => 0, fun _ => 0, 0, []⟩
/-- when the next step of job j begins -/
def beginS (m : Nat → Nat → Nat) (s : ShopS) (j : Nat) : Int := max (s.rd j) (s.fr (m j (s.nx j)))
def turnS (m : Nat → Nat → Nat) (p : Nat → Nat → Int) (s : ShopS) (j : Nat) : ShopS :=
  ⟨setN s.nx j (s.nx j + 1), setN s.b j (setN (s.b j) (s.nx j) (beginS m s j)), setN s.rd j (beginS m s j + p j (s.nx j)), setN s.fr (m j (s.nx j)) (beginS m s j + p j (s.nx j)),
   max s.all (beginS m s j + p j (s.nx j)), s.done ++ [(j, s.nx j)]⟩
def runS (m : Nat → Nat → Nat) (p : Nat → Nat → Int) (s : ShopS) (l : List Nat) : ShopS := l.foldl (turnS m p) s
theorem runS_snoc (m : Nat → Nat → Nat) (p : Nat → Nat → Int) (s : ShopS) (l : List Nat) (j : Nat) : runS m p s (l ++ [j]) = turnS m p (runS m p s l) j := by simp [runS]
theorem runS_cons (m : Nat → Nat → Nat) (p : Nat → Nat → Int) (s : ShopS) (l : List Nat) (j : Nat) : runS m p s (j :: l) = runS m p (turnS m p s j) l := rfl
/-- the times of some steps on a machine -/
def onM (m : Nat → Nat → Nat) (p : Nat → Nat → Int) (M : Nat) : List (Nat × Nat) → Int
  | [] => 0
  | x :: l => (if m x.1 x.2 = M then p x.1 x.2 else 0) + onM m p M l
theorem onM_append (m : Nat → Nat → Nat) (p : Nat → Nat → Int) (M : Nat) (l k : List (Nat × Nat)) : onM m p M (l ++ k) = onM m p M l + onM m p M k := by
  induction l with
  | nil => simp [onM]
  | cons x l ih => rw [List.cons_append, onM, onM, ih]; omega
theorem onM_perm {m : Nat → Nat → Nat} {p : Nat → Nat → Int} {M : Nat} {l k : List (Nat × Nat)} (h : l.Perm k) : onM m p M l = onM m p M k := by
  induction h with
  | nil => rfl
  | cons x _ ih => rw [onM, onM, ih]
  | swap x y l => simp only [onM]; omega
  | trans _ _ ih1 ih2 => rw [ih1, ih2]
/-- the times of the first steps of a job -/
def stepsTo (p : Nat → Nat → Int) (j : Nat) : Nat → Int
  | 0 => 0
  | k + 1 => stepsTo p j k + p j k
structure ShopI (m : Nat → Nat → Nat) (p : Nat → Nat → Int) (s : ShopS) : Prop where
  nn : 0 ≤ s.all ∧ (∀ j, 0 ≤ s.rd j) ∧ (∀ M, 0 ≤ s.fr M)
  pos : ∀ j k, k < s.nx j → 0 ≤ s.b j k
  last : ∀ j k, k < s.nx j → s.b j k + p j k ≤ s.rd j
  work : ∀ j, stepsTo p j (s.nx j) ≤ s.rd j
  chain : ∀ j k, k + 1 < s.nx j → s.b j k + p j k ≤ s.b j (k + 1)
  free : ∀ j k, k < s.nx j → s.b j k + p j k ≤ s.fr (m j k)
  mach : ∀ M, onM m p M s.done ≤ s.fr M
  upR : ∀ j, s.rd j ≤ s.all
  upF : ∀ M, s.fr M ≤ s.all
  is : s.all = 0 ∨ ∃ j k, k < s.nx j ∧ s.all = s.b j k + p j k
  apart : ∀ j k i h, k < s.nx j → h < s.nx i → (j, k) ≠ (i, h) → m j k = m i h → s.b j k + p j k ≤ s.b i h ∨ s.b i h + p i h ≤ s.b j k
  mem : ∀ j k, (j, k) ∈ s.done ↔ k < s.nx j
  nod : s.done.Nodup
theorem shop0_inv (m : Nat → Nat → Nat) (p : Nat → Nat → Int) : ShopI m p shop0 := by
  refine ⟨⟨Int.le_refl _, fun _ => Int.le_refl _, fun _ => Int.le_refl _⟩, ?_, ?_, fun _ => Int.le_refl _, ?_, ?_, fun _ => Int.le_refl _, fun _ => Int.le_refl _, fun _ => Int.le_refl _, .inl rfl, ?_, ?_, List.nodup_nil⟩
  all_goals simp [shop0]
theorem ShopI.turn {m : Nat → Nat → Nat} {p : Nat → Nat → Int} (hp : ∀ j k, 0 ≤ p j k) {s : ShopS} (h : ShopI m p s) (j : Nat) : ShopI m p (turnS m p s j) := by
  have ht1 : s.rd j ≤ beginS m s j := by unfold beginS; omega
  have ht2 : s.fr (m j (s.nx j)) ≤ beginS m s j := by unfold beginS; omega
  have ht3 : beginS m s j ≤ s.all := by unfold beginS; have := h.upR j; have := h.upF (m j (s.nx j)); omega
  have ht0 := h.nn.2.1 j
  have hpj := hp j (s.nx j)
  generalize hT : beginS m s j = t at ht1 ht2 ht3
  have e : turnS m p s j = ⟨setN s.nx j (s.nx j + 1), setN s.b j (setN (s.b j) (s.nx j) t), setN s.rd j (t + p j (s.nx j)), setN s.fr (m j (s.nx j)) (t + p j (s.nx j)), max s.all (t + p j (s.nx j)), s.done ++ [(j, s.nx j)]⟩ := by
    unfold turnS; rw [hT]
  rw [e]
  clear e hT
  have hb : ∀ i k, (i = j ∧ k = s.nx j ∧ setN s.b j (setN (s.b j) (s.nx j) t) i k = t) ∨ (¬ (i = j ∧ k = s.nx j) ∧ setN s.b j (setN (s.b j) (s.nx j) t) i k = s.b i k) := by
    intro i k
    by_cases hi : i = j
    · subst hi
      rw [setN_at]
      by_cases hk : k = s.nx i
      · subst hk; exact .inl ⟨rfl, rfl, setN_at _ _ _⟩
      · exact .inr ⟨fun h => hk h.2, setN_ne _ _ hk⟩
    · rw [setN_ne _ _ hi]; exact .inr ⟨fun h => hi h.1, rfl⟩
  have hn : ∀ i k, k < setN s.nx j (s.nx j + 1) i ↔ k < s.nx i ∨ (i = j ∧ k = s.nx j) := by
    intro i k
    by_cases hi : i = j
    · subst hi; rw [setN_at]; constructor
      · intro h; omega
      · rintro (h | h) <;> omega
    · rw [setN_ne _ _ hi]; constructor
      · exact .inl
      · rintro (h | h)
        · exact h
        · exact absurd h.1 hi
  have hr : ∀ i, setN s.rd j (t + p j (s.nx j)) i = if i = j then t + p j (s.nx j) else s.rd i := fun _ => rfl
  have hf : ∀ M, setN s.fr (m j (s.nx j)) (t + p j (s.nx j)) M = if M = m j (s.nx j) then t + p j (s.nx j) else s.fr M := fun _ => rfl
  refine ⟨⟨?_, fun i => ?_, fun M => ?_⟩, fun i k hk => ?_, fun i k hk => ?_, fun i => ?_, fun i k hk => ?_, fun i k hk => ?_, fun M => ?_, fun i => ?_, fun M => ?_, ?_, fun i k i' k' hk hk' hne hm => ?_, fun i k => ?_, ?_⟩
  · show 0 ≤ max s.all _; have := h.nn.1; omega
  · show 0 ≤ setN s.rd j _ i; rw [hr]; split
    · omega
    · exact h.nn.2.1 i
  · show 0 ≤ setN s.fr _ _ M; rw [hf]; split
    · omega
    · exact h.nn.2.2 M
  · show 0 ≤ setN s.b j _ i k
    rcases hb i k with ⟨_, _, e⟩ | ⟨hn', e⟩
    · rw [e]; omega
    · rw [e]; rcases (hn i k).1 hk with h1 | h1
      · exact h.pos i k h1
      · exact absurd h1 hn'
  · show setN s.b j _ i k + p i k ≤ setN s.rd j _ i
    rw [hr]
    rcases hb i k with ⟨e1, e2, e⟩ | ⟨hn', e⟩
    · rw [e, e1, e2, if_pos rfl]; exact Int.le_refl _
    · rw [e]; rcases (hn i k).1 hk with h1 | h1
      · have := h.last i k h1
        split
        · rename_i e3; subst e3; omega
        · exact this
      · exact absurd h1 hn'
  · show stepsTo p i (setN s.nx j _ i) ≤ setN s.rd j _ i
    rw [hr]
    by_cases hi : i = j
    · subst hi; rw [setN_at, if_pos rfl, stepsTo]; have := h.work i; omega
    · rw [setN_ne _ _ hi, if_neg hi]; exact h.work i
  · show setN s.b j _ i k + p i k ≤ setN s.b j _ i (k + 1)
    have hk1 : k < s.nx i := by
      rcases (hn i (k + 1)).1 hk with h1 | ⟨h1, h2⟩
      · omega
      · subst h1; omega
    rcases hb i k with ⟨e1, e2, _⟩ | ⟨_, ek⟩
    · subst e1; omega
    · rw [ek]
      rcases hb i (k + 1) with ⟨e1, e2, e3⟩ | ⟨hn', e3⟩
      · rw [e3]; subst e1; have := h.last i k hk1; omega
      · rw [e3]; rcases (hn i (k + 1)).1 hk with h1 | h1
        · exact h.chain i k h1
        · exact absurd h1 hn'
  · show setN s.b j _ i k + p i k ≤ setN s.fr _ _ (m i k)
    rw [hf]
    rcases hb i k with ⟨e1, e2, e⟩ | ⟨hn', e⟩
    · rw [e, e1, e2, if_pos rfl]; exact Int.le_refl _
    · rw [e]; rcases (hn i k).1 hk with h1 | h1
      · have := h.free i k h1
        split
        · rename_i e3; rw [e3] at this; omega
        · exact this
      · exact absurd h1 hn'
  · show onM m p M (s.done ++ [(j, s.nx j)]) ≤ setN s.fr _ _ M
    rw [hf, onM_append]
    show onM m p M s.done + ((if m j (s.nx j) = M then p j (s.nx j) else 0) + 0) ≤ _
    have := h.mach M
    by_cases e : M = m j (s.nx j)
    · rw [if_pos e, if_pos e.symm]; rw [e] at this ⊢; omega
    · rw [if_neg e, if_neg (fun e' => e e'.symm)]; omega
  · show setN s.rd j _ i ≤ max s.all _
    rw [hr]; have := h.upR i; split <;> omega
  · show setN s.fr _ _ M ≤ max s.all _
    rw [hf]; have := h.upF M; split <;> omega
  · show max s.all (t + p j (s.nx j)) = 0 ∨ ∃ i k, k < setN s.nx j _ i ∧ max s.all (t + p j (s.nx j)) = setN s.b j _ i k + p i k
    by_cases hle : s.all ≤ t + p j (s.nx j)
    · refine .inr ⟨j, s.nx j, (hn j _).2 (.inr ⟨rfl, rfl⟩), ?_⟩
      rcases hb j (s.nx j) with ⟨_, _, e⟩ | ⟨hn', _⟩
      · rw [e]; omega
      · exact absurd ⟨rfl, rfl⟩ hn'
    · rcases h.is with h0 | ⟨i, k, hk, e⟩
      · omega
      · refine .inr ⟨i, k, (hn i k).2 (.inl hk), ?_⟩
        rcases hb i k with ⟨e1, e2, _⟩ | ⟨_, e3⟩
        · subst e1; omega
        · rw [e3]; omega
  · show setN s.b j _ i k + p i k ≤ setN s.b j _ i' k' ∨ setN s.b j _ i' k' + p i' k' ≤ setN s.b j _ i k
    rcases hb i k with ⟨e1, e2, e⟩ | ⟨hn1, e⟩
    · rcases hb i' k' with ⟨f1, f2, f⟩ | ⟨hn2, f⟩
      · exact absurd (by rw [e1, e2, f1, f2]) hne
      · rcases (hn i' k').1 hk' with h1 | h1
        · right; rw [e, f]; have := h.free i' k' h1; rw [← hm, e1, e2] at this; omega
        · exact absurd h1 hn2
    · rcases (hn i k).1 hk with h1 | h1
      · rcases hb i' k' with ⟨f1, f2, f⟩ | ⟨hn2, f⟩
        · left; rw [e, f]; have := h.free i k h1; rw [hm, f1, f2] at this; omega
        · rcases (hn i' k').1 hk' with h2 | h2
          · rw [e, f]; exact h.apart i k i' k' h1 h2 hne hm
          · exact absurd h2 hn2
      · exact absurd h1 hn1
  · show (i, k) ∈ s.done ++ [(j, s.nx j)] ↔ k < setN s.nx j _ i
    rw [hn, List.mem_append, h.mem, List.mem_singleton, Prod.mk.injEq]
  · exact (List.perm_append_singleton _ _).symm.nodup (List.nodup_cons.2 ⟨fun hm => by have := (h.mem j (s.nx j)).1 hm; omega, h.nod⟩)
theorem runS_inv {m : Nat → Nat → Nat} {p : Nat → Nat → Int} (hp : ∀ j k, 0 ≤ p j k) (l : List Nat) : ∀ s, ShopI m p s → ShopI m p (runS m p s l) := by
  induction l with
  | nil => intro s h; exact h
  | cons j l ih => intro s h; exact ih _ (h.turn hp j)
theorem runS_nx (m : Nat → Nat → Nat) (p : Nat → Nat → Int) (l : List Nat) : ∀ s j, (runS m p s l).nx j = s.nx j + l.count j := by
  induction l with
  | nil => intro s j; simp [runS]
  | cons i l ih =>
    intro s j
    rw [runS_cons, ih, List.count_cons]
    show setN s.nx i (s.nx i + 1) j + _ = _
    by_cases e : j = i
    · subst e; rw [setN_at]; simp; omega
    · rw [setN_ne _ _ e]; simp [beq_eq_false_iff_ne.2 (fun h => e h.symm)]
end Go.Proofs.Ythmifadnfaajbad
namespace Go.Proofs.Ythmifadnfaajbad

-- the best turns (plain)
/-- t has each job below n as often as left says -/
def TurnsOf (n : Nat) (left : Nat → Nat) (t : List Nat) : Prop := (∀ x ∈ t, x < n) ∧ ∀ j, j < n → t.count j = left j
/-- the lesser number at the first place where two differ, or the same -/
def lexLe : List Nat → List Nat → Prop
  | [], _ => True
  | _ :: _, [] => False
  | x :: l, y :: m => x < y ∨ (x = y ∧ lexLe l m)
theorem lexLe_refl : ∀ l : List Nat, lexLe l l
  | [] => trivial
  | _ :: l => .inr ⟨rfl, lexLe_refl l⟩
theorem lexLe_antisymm : ∀ {l m : List Nat}, l.length = m.length → lexLe l m → lexLe m l → l = m
  | [], [], _, _, _ => rfl
  | [], _ :: _, h, _, _ => by simp at h
  | _ :: _, [], h, _, _ => by simp at h
  | x :: l, y :: m, h, h1, h2 => by
    rcases h1 with h1 | ⟨rfl, h1⟩
    · rcases h2 with h2 | ⟨h2, _⟩ <;> omega
    · rcases h2 with h2 | ⟨_, h2⟩
      · omega
      · rw [lexLe_antisymm (by simpa using h) h1 h2]
theorem lexLe_append (h : List Nat) {l m : List Nat} : lexLe (h ++ l) (h ++ m) ↔ lexLe l m := by
  induction h with
  | nil => exact Iff.rfl
  | cons x h ih => rw [List.cons_append, List.cons_append, lexLe, ih]; simp
/-- l is the first one of the best: v its value -/
structure BestB (val : List Nat → Int) (n : Nat) (left : Nat → Nat) (l : List Nat) (v : Int) : Prop where
  turns : TurnsOf n left l
  value : val l = v
  least : ∀ m, TurnsOf n left m → v ≤ val m
  first : ∀ m, TurnsOf n left m → val m = v → lexLe l m
theorem turns_len {n : Nat} {left : Nat → Nat} : ∀ {l m : List Nat}, TurnsOf n left l → TurnsOf n left m → l.length = m.length := by
  intro l m h g
  have hp : l.Perm m := by
    refine List.perm_iff_count.2 (fun j => ?_)
    by_cases hj : j < n
    · rw [h.2 j hj, g.2 j hj]
    · rw [List.count_eq_zero.2 (fun hm => hj (h.1 j hm)), List.count_eq_zero.2 (fun hm => hj (g.1 j hm))]
  exact hp.length_eq
theorem BestB.uniq {val : List Nat → Int} {n : Nat} {left : Nat → Nat} {l m : List Nat} {u v : Int} (h : BestB val n left l u) (g : BestB val n left m v) : l = m ∧ u = v := by
  have e : u = v := by
    have h1 := h.least m g.turns
    have h2 := g.least l h.turns
    rw [g.value] at h1
    rw [h.value] at h2
    omega
  subst e
  exact ⟨lexLe_antisymm (turns_len h.turns g.turns) (h.first m g.turns g.value) (g.first l h.turns h.value), rfl⟩
/-- over the jobs below n that are left, the first of the least -/
def scanB (left : Nat → Nat) (g : Nat → List Nat × Int) : Nat → List Nat × Int
  | 0 => ([], -1)
  | j + 1 => if left j = 0 then scanB left g j else if (scanB left g j).2 < 0 ∨ (g j).2 < (scanB left g j).2 then g j else scanB left g j
theorem scanB_is {left : Nat → Nat} {g : Nat → List Nat × Int} (hg : ∀ j, left j ≠ 0 → 0 ≤ (g j).2) : ∀ n, ((∀ j, j < n → left j = 0) ∧ scanB left g n = ([], -1)) ∨
    ∃ j, j < n ∧ left j ≠ 0 ∧ scanB left g n = g j ∧ (∀ i, i < n → left i ≠ 0 → (g j).2 ≤ (g i).2) ∧ ∀ i, i < j → left i ≠ 0 → (g j).2 < (g i).2 := by
  intro n
  induction n with
  | zero => exact .inl ⟨fun j hj => by omega, rfl⟩
  | succ n ih =>
    rw [scanB]
    by_cases h0 : left n = 0
    · rw [if_pos h0]
      rcases ih with ⟨h1, h2⟩ | ⟨j, hj, h1, h2, h3, h4⟩
      · exact .inl ⟨fun j hj => by rcases Nat.lt_or_eq_of_le (Nat.le_of_lt_succ hj) with h | rfl
                                   · exact h1 j h
                                   · exact h0, h2⟩
      · exact .inr ⟨j, by omega, h1, h2, fun i hi hl => h3 i (by have : i ≠ n := fun e => hl (e ▸ h0); omega) hl, h4⟩
    · rw [if_neg h0]
      rcases ih with ⟨h1, h2⟩ | ⟨j, hj, h1, h2, h3, h4⟩
      · rw [if_pos (.inl (by rw [h2]; decide))]
        exact .inr ⟨n, by omega, h0, rfl, fun i hi hl => by
          rcases Nat.lt_or_eq_of_le (Nat.le_of_lt_succ hi) with h | rfl
          · exact absurd (h1 i h) hl
          · exact Int.le_refl _, fun i hi hl => absurd (h1 i hi) hl⟩
      · have hnn := hg j h1
        by_cases hlt : (g n).2 < (g j).2
        · rw [if_pos (.inr (by rw [h2]; exact hlt))]
          exact .inr ⟨n, by omega, h0, rfl, fun i hi hl => by
            rcases Nat.lt_or_eq_of_le (Nat.le_of_lt_succ hi) with h | rfl
            · have := h3 i h hl; omega
            · exact Int.le_refl _, fun i hi hl => by have := h3 i hi hl; omega⟩
        · rw [if_neg (by rw [h2]; omega), h2]
          exact .inr ⟨j, by omega, h1, rfl, fun i hi hl => by
            rcases Nat.lt_or_eq_of_le (Nat.le_of_lt_succ hi) with h | rfl
            · exact h3 i h hl
            · omega, h4⟩
def bestFS (val : List Nat → Int) (n : Nat) : Nat → List Nat → (Nat → Nat) → List Nat × Int
  | 0, h, _ => (h, val h)
  | f + 1, h, left => scanB left (fun j => bestFS val n f (h ++ [j]) (setN left j (left j - 1))) n
/-- so many are left -/
def sumLeft (left : Nat → Nat) : Nat → Nat
  | 0 => 0
  | n + 1 => sumLeft left n + left n
theorem sumLeft_set {left : Nat → Nat} {j : Nat} (hj : left j ≠ 0) : ∀ n, j < n → sumLeft (setN left j (left j - 1)) n + 1 = sumLeft left n := by
  intro n
  have same : ∀ k, k ≤ j → sumLeft (setN left j (left j - 1)) k = sumLeft left k := by
    intro k
    induction k with
    | zero => intro _; rfl
    | succ k ih => intro hk; rw [sumLeft, sumLeft, ih (by omega), setN_ne _ _ (by omega)]
  induction n with
  | zero => intro h; omega
  | succ n ih =>
    intro h
    rw [sumLeft, sumLeft]
    by_cases e : j = n
    · subst e; rw [same _ (Nat.le_refl _), setN_at]; omega
    · rw [setN_ne _ _ (by omega)]; have := ih (by omega); omega
theorem sumLeft_pos {left : Nat → Nat} : ∀ n, sumLeft left n ≠ 0 → ∃ j, j < n ∧ left j ≠ 0 := by
  intro n
  induction n with
  | zero => intro h; exact absurd rfl h
  | succ n ih =>
    intro h
    rw [sumLeft] at h
    by_cases e : left n = 0
    · obtain ⟨j, hj, h2⟩ := ih (by omega); exact ⟨j, by omega, h2⟩
    · exact ⟨n, by omega, e⟩
theorem sumLeft_zero {left : Nat → Nat} : ∀ n, sumLeft left n = 0 → ∀ j, j < n → left j = 0 := by
  intro n
  induction n with
  | zero => intro _ j hj; omega
  | succ n ih =>
    intro h j hj
    rw [sumLeft] at h
    rcases Nat.lt_or_eq_of_le (Nat.le_of_lt_succ hj) with h1 | rfl
    · exact ih (by omega) j h1
    · omega
theorem turns_cons {n : Nat} {left : Nat → Nat} {j : Nat} {t : List Nat} : TurnsOf n left (j :: t) ↔ j < n ∧ left j ≠ 0 ∧ TurnsOf n (setN left j (left j - 1)) t := by
  constructor
  · rintro ⟨h1, h2⟩
    have hj := h1 j (by simp)
    have hc := h2 j hj
    rw [List.count_cons_self] at hc
    refine ⟨hj, by omega, fun x hx => h1 x (by simp [hx]), fun i hi => ?_⟩
    have := h2 i hi
    by_cases e : i = j
    · subst e; rw [setN_at]; omega
    · rw [setN_ne _ _ e, ← this, List.count_cons_of_ne (fun h => e h.symm)]
  · rintro ⟨hj, h0, h1, h2⟩
    refine ⟨fun x hx => ?_, fun i hi => ?_⟩
    · rcases List.mem_cons.1 hx with rfl | hx
      · exact hj
      · exact h1 x hx
    · have := h2 i hi
      by_cases e : i = j
      · subst e; rw [setN_at] at this; rw [List.count_cons_self]; omega
      · rw [setN_ne _ _ e] at this; rw [List.count_cons_of_ne (fun h => e h.symm)]; exact this
theorem bestFS_is {val : List Nat → Int} (hv : ∀ l, 0 ≤ val l) {n : Nat} : ∀ f h left, sumLeft left n = f → ∃ t, bestFS val n f h left = (h ++ t, val (h ++ t)) ∧ TurnsOf n left t ∧
    (∀ m, TurnsOf n left m → val (h ++ t) ≤ val (h ++ m)) ∧ ∀ m, TurnsOf n left m → val (h ++ m) = val (h ++ t) → lexLe t m := by
  intro f
  induction f with
  | zero =>
    intro h left h0
    have hz := sumLeft_zero n h0
    have only : ∀ m, TurnsOf n left m → m = [] := by
      intro m hm
      cases m with
      | nil => rfl
      | cons x m => have h1 := (turns_cons.1 hm); exact absurd (hz x h1.1) h1.2.1
    refine ⟨[], by rw [bestFS, List.append_nil], ⟨fun x hx => (by cases hx), fun j hj => (hz j hj).symm⟩, fun m hm => by rw [only m hm]; exact Int.le_refl _, fun m _ _ => trivial⟩
  | succ f ih =>
    intro h left hf
    have hrec := fun j (hj : j < n) (h0 : left j ≠ 0) => ih (h ++ [j]) (setN left j (left j - 1)) (by have := sumLeft_set h0 n hj; omega)
    have hg : ∀ j, j < n → left j ≠ 0 → 0 ≤ (bestFS val n f (h ++ [j]) (setN left j (left j - 1))).2 := by
      intro j hj h0
      obtain ⟨t, e, _⟩ := hrec j hj h0
      rw [e]; exact hv _
    have hcong : ∀ k, k ≤ n → scanB left (fun j => bestFS val n f (h ++ [j]) (setN left j (left j - 1))) k = scanB left (fun j => if j < n then bestFS val n f (h ++ [j]) (setN left j (left j - 1)) else ([], 0)) k := by
      intro k
      induction k with
      | zero => intro _; rfl
      | succ k ihk =>
        intro hk
        rw [scanB, scanB, ihk (by omega)]
        simp only [show k < n by omega, if_true]
    rw [bestFS, hcong n (Nat.le_refl _)]
    rcases scanB_is (left := left) (g := fun j => if j < n then bestFS val n f (h ++ [j]) (setN left j (left j - 1)) else ([], 0)) (fun j h0 => by
      split
      · rename_i hj; exact hg j hj h0
      · exact Int.le_refl _) n with ⟨h1, _⟩ | ⟨j, hj, h1, h2, h3, h4⟩
    · obtain ⟨j, hj, h0⟩ := sumLeft_pos n (by omega : sumLeft left n ≠ 0)
      exact absurd (h1 j hj) h0
    · rw [h2]
      simp only [hj, if_true] at h3 h4 ⊢
      obtain ⟨t, e, e1, e2, e3⟩ := hrec j hj h1
      rw [e] at h3 h4 ⊢
      simp only [List.append_assoc, List.singleton_append] at e2 e3 h3 h4 ⊢
      refine ⟨j :: t, rfl, turns_cons.2 ⟨hj, h1, e1⟩, fun m hm => ?_, fun m hm hme => ?_⟩
      · cases m with
        | nil => have := hm.2 j hj; simp at this; omega
        | cons x m =>
          obtain ⟨hx, hx0, hm'⟩ := turns_cons.1 hm
          obtain ⟨u, f1, f2, f3, _⟩ := hrec x hx hx0
          have := h3 x hx hx0
          rw [if_pos hx, f1] at this
          have h5 := f3 m hm'
          simp only [List.append_assoc, List.singleton_append] at this h5
          omega
      · cases m with
        | nil => have := hm.2 j hj; simp at this; omega
        | cons x m =>
          obtain ⟨hx, hx0, hm'⟩ := turns_cons.1 hm
          obtain ⟨u, f1, f2, f3, _⟩ := hrec x hx hx0
          have h5 := f3 m hm'
          simp only [List.append_assoc, List.singleton_append] at h5
          rcases Nat.lt_trichotomy j x with hlt | rfl | hgt
          · exact .inl hlt
          · exact .inr ⟨rfl, e3 m hm' hme⟩
          · have := h4 x hgt hx0
            rw [if_pos hx, f1] at this
            simp only [List.append_assoc, List.singleton_append] at this
            omega
theorem bestFS_best {val : List Nat → Int} (hv : ∀ l, 0 ≤ val l) (n : Nat) (left : Nat → Nat) : BestB val n left (bestFS val n (sumLeft left n) [] left).1 (bestFS val n (sumLeft left n) [] left).2 := by
  obtain ⟨t, e, h1, h2, h3⟩ := bestFS_is hv (n := n) (sumLeft left n) [] left rfl
  rw [e]
  exact ⟨h1, rfl, h2, h3⟩
end Go.Proofs.Ythmifadnfaajbad
