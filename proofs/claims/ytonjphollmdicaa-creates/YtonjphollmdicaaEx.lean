import Derived.Test.YtonjphollmdicaaCreate
namespace Go.Proofs.Ytonjphollmdicaa
open Go.ChangeShapes Go.WideShapes Go.ChangeAt Go.RowKit

theorem sealL_len (k : UInt8) (set : Nat) (b : List UInt8) : (sealL k set b).length = 22 + b.length := by
  unfold sealL headL
  simp only [List.length_append, numBytes_len, List.length_cons, List.length_nil]
  omega

/-- files of a row that a call owns -/
theorem handed_of {W : World} {B : Nat} {v : Value} {fs : List FileL} (h : W.ownsRow B 43 2 v fs.length (filesV fs)) (h0 : 0 < fs.length) (hn : ∀ f ∈ fs, f.1.length < 140737488355328 ∧ f.2.length < 140737488355328) :
    ∃ g c, v = .slice (some ⟨g, 0, none⟩) fs.length c ∧ Handed W fs (some ⟨g, 0, none⟩) c := by
  rcases h.2 with ⟨_, h1⟩ | ⟨g, c, cur, rfl, hb, hg, hnc, _, _, _⟩
  · omega
  · refine ⟨g, c, rfl, ⟨?_, hnc, hn⟩⟩
    intro k u hk
    have := h.cells (g := g) rfl k u hk
    have hadd : (⟨g, 0, none⟩ : Addr).add k = ⟨g, 0 + k, none⟩ := by unfold Addr.add; split <;> simp_all
    rw [hadd] at this
    exact ⟨g, 0, rfl, this⟩

def exFs : List FileL := [([97], [0, 1, 0, 2])]
end Go.Proofs.Ytonjphollmdicaa
