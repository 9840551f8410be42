// Package whole has the tests of all layers together: the promises of the whole in shared/DOC.md, its ten
// examples, and scripts of any steps, looked over by what lin, audit and model tell.
package whole
