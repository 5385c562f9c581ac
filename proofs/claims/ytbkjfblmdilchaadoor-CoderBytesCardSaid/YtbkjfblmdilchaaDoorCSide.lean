/- Tables, encoders and decoders side by side; tables that change as symbols come. -/
import Derived.Test.YtbkjfblmdilchaaDoorCAwake
import Derived.Test.YtbkjfblmdilchaaDoorCDecode
namespace Go.Proofs.YtbkjfblmdilchaaDoor
open Go.RowKit

theorem block_ne {w : World} {a b : Nat} {ca cb : Array Value} {s t : TypeId} (ha : w.heap[a]? = some (.cells ca s (0, 0))) (hb : w.heap[b]? = some (.cells cb t (0, 0))) (h : s ≠ t) : a ≠ b := by
  intro e
  subst e
  rw [ha] at hb
  injection hb with hb
  injection hb with _ hb
  exact h hb
section
variable {S : Nat → Prop} {w w' : World} {B g gt q cap : Nat} {v pk : Value} {x : Iv} {b : List Nat} {c : List Int}
theorem own_ne {n p : Nat} {xs : List Value} {cp : Array Value} {t : TypeId} (h : w.ownsRow B 5 1 v n xs) (hp : w.heap[p]? = some (.cells cp t (0, 0))) (ht : t ≠ 5) : v.ownBlock ≠ some p := by
  intro e
  obtain ⟨_, _, cur, hc⟩ := own_lt h p e
  exact block_ne hp hc ht rfl
theorem TIs.keepC (h : TIs w gt q cap c) (hc : Chg S w w') (h1 : ¬ S gt) (h2 : ¬ S q) : TIs w' gt q cap c := h.keep (hc.far gt h.lt h1) (hc.far q h.lt' h2)
theorem TIs.enc (h : TIs w gt q cap c) (he : EIs w B g v x) (hc : Chg (ESet g v) w w') : TIs w' gt q cap c := by
  obtain ⟨r, hr⟩ := h.row
  refine h.keepC hc ?_ ?_
  · rintro (e | e)
    · exact block_ne h.blk he.sp (by decide) e
    · exact own_ne he.row h.blk (by decide) e
  · rintro (e | e)
    · exact block_ne hr he.sp (by decide) e
    · exact own_ne he.row hr (by decide) e
theorem TIs.dec (h : TIs w gt q cap c) (hd : DIs w B g pk x b) (hc : Chg (· = g) w w') : TIs w' gt q cap c := by
  obtain ⟨r, hr⟩ := h.row
  have h2 : w.heap[g]? = _ := hd.cell
  exact h.keepC hc (fun e => block_ne h.blk h2 (by decide) e) (fun e => block_ne hr h2 (by decide) e)
theorem EIs.bump (h : EIs w B g v x) (ht : TIs w gt q cap c) (hc : w.grownBy w' (some q)) : EIs w' B g v x := by
  obtain ⟨r, hr⟩ := ht.row
  refine h.keep (S := (· = q)) (.of_grown hc (fun p hp => by injection hp with hp; exact hp.symm)) (fun e => block_ne h.sp hr (by decide) e) (fun p hp e => own_ne h.row hr (by decide) (by rw [hp, e]))
theorem DIs.bump (h : DIs w B g pk x b) (ht : TIs w gt q cap c) (hc : w.grownBy w' (some q)) : DIs w' B g pk x b := by
  obtain ⟨r, hr⟩ := ht.row
  have h2 : w.heap[g]? = _ := h.cell
  exact h.keep (S := (· = q)) (.of_grown hc (fun p hp => by injection hp with hp; exact hp.symm)) (fun e => block_ne h2 hr (by decide) e) (fun p hp e => own_ne h.row hr (by decide) (by rw [hp, e]))
theorem TIs.bumped2 {gu qu cu : Nat} {cc : List Int} (h : TIs w gu qu cu cc) (ht : TIs w gt q cap c) (hne : qu ≠ q) (hc : w.grownBy w' (some q)) : TIs w' gu qu cu cc := by
  obtain ⟨r, hr⟩ := ht.row
  exact h.keepC (S := (· = q)) (.of_grown hc (fun p hp => by injection hp with hp; exact hp.symm)) (fun e => block_ne h.blk hr (by decide) e) hne
end

/-- The counts behind some symbols; each symbol with the counts by which it comes. -/
def cnt (c : List Int) (l : List Nat) : List Int := l.foldl bumped c
def ads (c : List Int) : List Nat → List (List Int × Nat)
  | [] => []
  | s :: l => (c, s) :: ads (bumped c s) l
theorem length_ads (c : List Int) (l : List Nat) : (ads c l).length = l.length := by
  induction l generalizing c with
  | nil => rfl
  | cons s l ih => rw [ads, List.length_cons, ih, List.length_cons]
theorem length_cnt (c : List Int) (l : List Nat) : (cnt c l).length = c.length := by
  induction l generalizing c with
  | nil => rfl
  | cons s l ih =>
    show (cnt (bumped c s) l).length = _
    rw [ih, length_bumped]
theorem cnt_ok {c : List Int} (h : Ok c) (l : List Nat) (hl : ∀ s ∈ l, s < c.length) : Ok (cnt c l) := by
  induction l generalizing c with
  | nil => exact h
  | cons s l ih => exact ih (h.bumped s (hl s (.head _))) fun t ht => by rw [length_bumped]; exact hl t (.tail _ ht)
theorem ads_at (c : List Int) (l : List Nat) (k : Nat) (hk : k < l.length) : (ads c l)[k]? = some (cnt c (l.take k), l[k]) := by
  induction l generalizing c k with
  | nil => simp at hk
  | cons s l ih =>
    cases k with
    | zero => rfl
    | succ k =>
      rw [ads, List.getElem?_cons_succ, ih (bumped c s) k (by simpa using hk)]
      rfl
theorem cnt_succ (c : List Int) (l : List Nat) (k : Nat) (hk : k < l.length) : cnt c (l.take (k + 1)) = bumped (cnt c (l.take k)) l[k] := by
  rw [List.take_succ_eq_append_getElem hk, cnt, List.foldl_append]; rfl
theorem ads_right {c : List Int} (h : Ok c) (l : List Nat) (hl : ∀ s ∈ l, s < c.length) : Right (ads c l) := by
  intro p hp
  obtain ⟨k, hk, rfl⟩ := List.mem_iff_getElem.1 hp
  have hk2 : k < l.length := by rw [length_ads] at hk; exact hk
  have := ads_at c l k hk2
  rw [List.getElem?_eq_getElem hk] at this
  injection this with this
  rw [this]
  exact ⟨cnt_ok h _ fun s hs => hl s (List.mem_of_mem_take hs), by show l[k] < (cnt c _).length; rw [length_cnt]; exact hl _ (List.getElem_mem hk2)⟩
theorem run_ads (c : List Int) (l : List Nat) (k : Nat) (hk : k < l.length) : runIv firstIv ((ads c l).take (k + 1)) = come (runIv firstIv ((ads c l).take k)) (cnt c (l.take k)) l[k] := by
  rw [take_mem (ads_at c l k hk), runIv_snoc]
theorem Right.take {l : List (List Int × Nat)} (h : Right l) (k : Nat) : Right (l.take k) := fun p hp => h p (List.mem_of_mem_take hp)
theorem run_all (c : List Int) (l : List Nat) (k : Nat) (hk : l.length ≤ k) : (ads c l).take k = ads c l := List.take_of_length_le (by rw [length_ads]; exact hk)
def c8 : List Int := List.replicate 8 1
theorem ok8 : Ok c8 := ⟨by decide, by decide, by decide, by decide⟩
/-- Where all symbols are one. -/
theorem run_same (l : List Nat) (s : Nat) (h : ∀ t ∈ l, t = s) (k : Nat) (hk : k ≤ l.length) : adapt s k = (runIv firstIv ((ads c8 l).take k), cnt c8 (l.take k)) := by
  induction k with
  | zero => rfl
  | succ k ih =>
    have hs : l[k]'(by omega) = s := h _ (List.getElem_mem _)
    rw [adapt, ih (by omega), run_ads c8 l k (by omega), cnt_succ c8 l k (by omega), hs]
/-- The symbol that a decoder finds on the way is that which came. -/
theorem way_one {b : List Nat} (hb : Dig b) (l : List (List Int × Nat)) (h : Right l) (hi : Inside (runIv firstIv l) b) (i : Nat) (p : List Int × Nat) (hp : l[i]? = some p) (s : Nat) (hs : s < p.1.length) (hs2 : Inside (come (runIv firstIv (l.take i)) p.1 s) b) : s = p.2 := by
  obtain ⟨hl, rfl⟩ := List.getElem?_eq_some_iff.1 hp
  have h1 := inside_way hb l h firstIv hi i hl
  have h2 := h _ (List.getElem_mem hl)
  rcases Nat.lt_trichotomy s l[i].2 with h3 | h3 | h3
  · exact absurd h1 (come_apart hb h2.1 s _ h3 h2.2 hs2)
  · exact h3
  · exact absurd hs2 (come_apart hb h2.1 _ s h3 hs h1)
end Go.Proofs.YtbkjfblmdilchaaDoor
