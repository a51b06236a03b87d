/-
  What is proved here: records that may all be, as a list.
-/
import Derived.Test.YtjceajgefpinpaaC1a
namespace Go.Proofs.Ytjceajgefpinpaa
open Go.RowKit

theorem all_of : ∀ {l : List Rc}, (∀ r ∈ l, r.Ok) → foAll l := fun {l} h i hi => h _ (by unfold rg; rw [List.getD_eq_getElem?_getD, List.getElem?_eq_getElem hi]; exact List.getElem_mem hi)
end Go.Proofs.Ytjceajgefpinpaa
