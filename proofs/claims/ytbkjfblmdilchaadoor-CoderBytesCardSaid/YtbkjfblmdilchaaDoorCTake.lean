/- A decoder's take: the next byte, or 0. -/
import Derived.Test.YtbkjfblmdilchaaDoorCBytes
import Derived.Test.YtbkjfblmdilchaaDoorIvCode
import Derived.StillTailTactics
import Derived.Laws.BitsAllLaws
namespace Go.Proofs.YtbkjfblmdilchaaDoor
open Go.RowKit

theorem or_byte (x d : Nat) (hx : x < 4294967296) (hd : d < 256) : bits BinOp.or IntKind.u64 ((x : Int) * 256) (d : Int) = (x : Int) * 256 + (d : Int) := by
  have h1 : x * 256 ||| d = x * 256 + d := nat_join 8 _ _ (by omega) (by omega)
  have h2 := u64_or_nat (x * 256) d (by omega) (by omega)
  rw [h1] at h2
  rw [show ((x : Int) * 256) = ((x * 256 : Nat) : Int) by omega, h2]
  omega

/-- A decoder lies in block g, its bytes in the row pk: k symbols' worth of digits taken, ab above. -/
def DCell (w : World) (g : Nat) (pk : Value) (lo sz : Int) (k ab : Nat) : Prop := SIs w g 76 pk lo sz [.int .i64 (k : Int), .int .u64 (ab : Int)]
theorem DCell.k {w : World} {g : Nat} {pk : Value} {lo sz : Int} {k ab : Nat} (h : DCell w g pk lo sz k ab) : w.cell? ⟨g, 3, none⟩ = some (.int .i64 (k : Int)) := by rw [cell_in h]; rfl
theorem DCell.ab {w : World} {g : Nat} {pk : Value} {lo sz : Int} {k ab : Nat} (h : DCell w g pk lo sz k ab) : w.cell? ⟨g, 4, none⟩ = some (.int .u64 (ab : Int)) := by rw [cell_in h]; rfl
theorem DCell.pk {w : World} {g : Nat} {pk : Value} {lo sz : Int} {k ab : Nat} (h : DCell w g pk lo sz k ab) : w.cell? ⟨g, 0, none⟩ = some pk := by rw [cell_in h]; rfl
theorem DCell.setAb {w : World} {g : Nat} {pk : Value} {lo sz : Int} {k ab : Nat} (h : DCell w g pk lo sz k ab) (x : Nat) (y : Int) (hy : y = (x : Int)) : DCell (w.setCell ⟨g, 4, none⟩ (.int .u64 y)) g pk lo sz k x := by
  subst hy
  have := heap_set h 4 (.int .u64 (x : Int)); simpa [DCell, SIs] using this
theorem DCell.setK {w : World} {g : Nat} {pk : Value} {lo sz : Int} {k ab : Nat} (h : DCell w g pk lo sz k ab) (x : Nat) (y : Int) (hy : y = (x : Int)) : DCell (w.setCell ⟨g, 3, none⟩ (.int .i64 y)) g pk lo sz x ab := by
  subst hy
  have := heap_set h 3 (.int .i64 (x : Int)); simpa [DCell, SIs] using this
def Took (w : World) (g : Nat) (pk : Value) (lo sz : Int) (k ab : Nat) (e : Ending) (w' : World) : Prop := e = .returned (.tuple #[]) ∧ DCell w' g pk lo sz k ab ∧ Chg (· = g) w w'

theorem own_far {w : World} {B n g : Nat} {v : Value} {xs : List Value} {t : TypeId} {a : Value} {lo sz : Int} {rest : List Value} (h : w.ownsRow B 5 1 v n xs) (hs : SIs w g t a lo sz rest) (ht : t ≠ 5) : v.ownBlock ≠ some g := by
  intro e
  obtain ⟨_, _, cur, hc⟩ := own_lt h g e
  rw [SIs, hc] at hs
  injection hs with hs
  injection hs with _ h2
  exact ht h2.symm

set_option maxHeartbeats 1600000 in
set_option maxRecDepth 100000 in
theorem take_any (w : World) (B g : Nat) (pk : Value) (lo sz : Int) (k ab : Nat) (b : List Nat) (i : Nat) (h : DCell w g pk lo sz k ab) (ho : w.ownsRow B 5 1 pk b.length (bts b)) (hb : Dig b) (ha : ab < 4294967296) :
    Calls Tryd.prog 39 #[.pointer (some ⟨g, 0, none⟩), .int .i64 (i : Int)] w (Took w g pk lo sz k (ab * 256 + b.getD i 0)) := by
  obtain ⟨A, c, hv, hA, hR⟩ := Reads.of_own ho
  subst hv
  have c0 := h.pk
  have c4 := h.ab
  have f4 := frozen_in h 4
  have hfar := own_far ho h (by decide)
  have H1 := h.setAb (ab * 256) ((ab : Int) * 256) (by omega)
  have O1 := own_keep ho (Chg.of_set (S := (· = g)) w ⟨g, 4, none⟩ (.int .u64 ((ab : Int) * 256)) rfl) (fun p hp e => hfar (by rw [hp, e]))
  have C1 := Lib.hid (Chg.of_set (S := (· = g)) w ⟨g, 4, none⟩ (.int .u64 ((ab : Int) * 256)) rfl)
  have HH1 := Lib.hid H1
  have OO1 := Lib.hid O1
  have HB := Lib.hid hb
  clear h ho hR O1 hb
  by_cases hi : i < b.length
  · have t1 : (i : Int) < (b.length : Int) := by omega
    have HD := Lib.hid (dig_at HB.out i)
    have d0 := H1.pk
    have d4 := H1.ab
    have g4 := frozen_in H1 4
    obtain ⟨A', c', hv', _, hR'⟩ := Reads.of_own OO1.out
    injection hv' with h1 _ h3
    subst h1 h3
    obtain ⟨ad, rfl, hcell⟩ := hR'.2 (by omega)
    have dx := hcell i _ (bts_at b i hi)
    clear H1 hcell hR'
    have bd := HD.out
    generalize hdd : b.getD i 0 = d at *
    have HDD := Lib.hid hdd
    clear hdd
    generalize hbl : b.length = n at *
    have HBL := Lib.hid hbl
    clear hbl
    have eo := or_byte ab d ha bd
    have e6 : ((ab * 256 : Nat) : Int) = (ab : Int) * 256 := by omega
    rw [e6] at d4
    go_enter Tryd.func39, Tryd.ntmps39
    go_wp2_with fail
    generalize w.setCell ⟨g, 4, none⟩ (.int .u64 ((ab : Int) * 256)) = W at *
    go_still_tail 15, (by kernel_rfl)
    change wpList _ _ _ _ _ W.drew
    go_wp2
    go_end0
    refine ⟨rfl, ?_, ?_⟩
    · exact DCell.setAb (w := W.drew) HH1.out (ab * 256 + d) _ (by rw [eo]; omega)
    · exact (C1.out.read ⟨1, rfl⟩).set _ _ (by exact rfl)
  · have t1 : ¬ (i : Int) < (b.length : Int) := by omega
    have hz : b.getD i 0 = 0 := by rw [List.getD_eq_getElem?_getD, List.getElem?_eq_none (by omega)]; rfl
    rw [hz]
    have d0 := H1.pk
    clear H1 hz
    generalize hbl : b.length = n at *
    have HBL := Lib.hid hbl
    clear hbl
    go_enter Tryd.func39, Tryd.ntmps39
    go_wp2
    go_end0
    exact ⟨rfl, HH1.out, C1.out⟩
end Go.Proofs.YtbkjfblmdilchaaDoor
